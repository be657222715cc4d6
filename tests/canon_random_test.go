package tests

import (
	"math/rand"
	"testing"

	"loop.example/g00005/impl"
)

// holdCanons holds both functions against the slow way, and counts the codes of
// the first.
func (counts checkCounts) holdCanons(t *testing.T, w *slowSteps, ctx []impl.Term, x impl.Term, fuel int) {
	t.Helper()
	counts[canonAsk{askCanon, ctx, x}.holdSlow(t, w, fuel)]++
	canonAsk{askCanonType, ctx, x}.holdSlow(t, w, fuel)
}

func TestCanonOfRandomTerms(t *testing.T) {
	t.Parallel()
	r := rand.New(rand.NewSource(131))
	counts := checkCounts{}
	for i := range 120 {
		e := canonEnv()
		switch i % 3 {
		case 1:
			e = randomEnv(r).e
		case 2:
			e = familyEnv(r)
		}
		m, w := newStepMaker(r, e), slowStepsIn(e)
		for range 5 {
			ctx := m.context(r.Intn(5))
			if i%3 == 0 && r.Intn(2) == 0 {
				ctx = convContext()
			}
			for range 8 {
				x := m.small(func() impl.Term { return m.open(1+r.Intn(4), len(ctx)) })
				counts.holdCanons(t, w, ctx, x, r.Intn(1+r.Intn(1+r.Intn(150))))
			}
		}
	}
	counts.holdMet(t, 50, 0, impl.CodeFuel, impl.CodeFun, impl.CodeSort, impl.CodeHole)
	counts.holdMet(t, 20, impl.CodeProj)
}

// Terms most of which have a type, and with a mistake here and there.
func TestCanonOfMadeTerms(t *testing.T) {
	t.Parallel()
	r := rand.New(rand.NewSource(132))
	e, ctx := canonEnv(), convContext()
	w := slowStepsIn(e)
	counts := checkCounts{}
	for i := range 1200 {
		m := &checkMaker{r, checkTexts(), 150 * (i % 3)}
		x := m.make([]string{"aNat", "aPair", "aFun", "aType"}[r.Intn(4)], 1+r.Intn(4))
		if x.size() > 200 {
			continue
		}
		fuel := r.Intn(1 + r.Intn(300))
		if r.Intn(2) == 0 {
			fuel = 3000
		}
		counts.holdCanons(t, w, ctx, x.term(), fuel)
	}
	counts.holdMet(t, 400, 0)
	counts.holdMet(t, 50, impl.CodeFuel)
	counts.holdMet(t, 5, impl.CodeFun, impl.CodeHole)
}

// Terms of structures, functions and proofs within each other: variables of types
// that are put together.
func TestCanonAtRandomTypes(t *testing.T) {
	t.Parallel()
	r := rand.New(rand.NewSource(133))
	e := canonEnv()
	w := slowStepsIn(e)
	texts := map[string][]string{
		"aType": {
			"Nat", "Unit", "Two", "Pair", "Fun", "[[Prod{0,0} aType] aType]", "[[Prod{0,0} aType] aType]", "[Box{0} aType]", "[! x 0 aType aType]", "[! x 0 aType aType]",
			"[[Sigma{0,0} aType] [^ x 0 aType aType]]", "[[Sigma{0,0} Nat] [^ n 0 Nat [[Vec{0} Unit] #0]]]", "[[Sigma{0,0} Nat] [^ n 0 Nat [pow #0]]]", "[List{0} aType]", "[[Vec{1} aType] two]",
			"[[id{2} *1] aType]", "[= X *1 aType [[Prod{0,0} #0] #0]]", "[pow one]", "[[[Eq{1} aType] #0] #0]", "[! x 0 aType [[[Eq{1} Nat] two] two]]", "[[And True] False]", "#2",
		},
	}
	counts := checkCounts{}
	for range 700 {
		m := &checkMaker{r, texts, 0}
		// types of one variable stand in the context behind this one
		ctx := contextOf("*1", "#0", "Nat")
		for range 2 {
			typ := m.make("aType", 1+r.Intn(4))
			ctx = append(ctx, typ.lifted(0, len(ctx)-3).term())
		}
		x := []string{"#0", "#1", "[= z Nat two #1]", "[[[[Prod.mk{0,0} Nat] Nat] two] #2]", "[^ y 2 Nat #1]"}[r.Intn(5)]
		counts.holdCanons(t, w, ctx, read(x), []int{r.Intn(40), 3000}[r.Intn(2)])
	}
	counts.holdMet(t, 300, 0)
	counts.holdMet(t, 50, impl.CodeFuel)
}

// Contexts and terms with a mistake.
func TestCanonOfAnyInput(t *testing.T) {
	t.Parallel()
	r := rand.New(rand.NewSource(134))
	counts := checkCounts{}
	refused := 0
	for range 80 {
		e := randomEnv(r)
		m, w := newStepMaker(r, e.e), slowStepsIn(e.e)
		for range 5 {
			ctx := m.context(1 + r.Intn(4))
			if at := r.Intn(len(ctx)); r.Intn(4) == 0 {
				ctx[at] = m.spoiltTerm(ctx[at])
			}
			x := m.small(func() impl.Term { return m.open(r.Intn(4), len(ctx)) })
			if r.Intn(3) == 0 {
				x = m.spoiltTerm(x)
			}
			known := slowKnownFor(e.e, m.table, x, len(ctx))
			for place, typ := range ctx {
				known = known && slowKnownFor(e.e, m.table, typ, place)
			}
			if known {
				counts.holdCanons(t, w, ctx, x, r.Intn(40))
			} else {
				refused++
				holdNoForm(t, "any input", e.e, ctx, x)
			}
		}
		if broken := e.spoiltEnv(); !slowEnvOk(broken) {
			holdNoForm(t, "an environment with a mistake", broken, nil, prop())
		}
	}
	if refused < 50 || refused > 350 {
		t.Errorf("%d are refused", refused)
	}
}
