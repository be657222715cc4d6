package tests

import (
	"math/rand"
	"testing"

	"loop.example/g00005/impl"
)

// checkCounts are the codes that were met, and the answers.
type checkCounts map[int]int

// holdAll asks in each way.
func (counts checkCounts) holdAll(t *testing.T, w *slowSteps, params []string, ctx []impl.Term, x, want impl.Term, fuel int) {
	t.Helper()
	for way := range 3 {
		answer := checkAsk{way, params, ctx, x, want}.holdSlow(t, w, fuel)
		if way == askInfer {
			counts[answer.code]++
		}
	}
}

func (counts checkCounts) holdMet(t *testing.T, least int, codes ...int) {
	t.Helper()
	for _, code := range codes {
		if counts[code] < least {
			t.Errorf("only %d of code %d: %v", counts[code], code, counts)
		}
	}
	if counts[slowLost] > 100 {
		t.Errorf("%d can't be told", counts[slowLost])
	}
}

func TestCheckingRandomTerms(t *testing.T) {
	t.Parallel()
	r := rand.New(rand.NewSource(102))
	counts := checkCounts{}
	for i := range 120 {
		e := convEnv()
		switch i % 3 {
		case 1:
			e = randomEnv(r).e
		case 2:
			e = familyEnv(r)
		}
		m, w := newStepMaker(r, e), slowStepsIn(e)
		for range 5 {
			ctx := m.context(r.Intn(5))
			if i%3 == 0 && r.Intn(2) == 0 {
				ctx = convContext()
			}
			params := [][]string{nil, {"u"}, {"q", "u"}, {"u", "q", "v"}}[r.Intn(4)]
			for range 8 {
				x := m.small(func() impl.Term { return m.open(1+r.Intn(4), len(ctx)) })
				counts.holdAll(t, w, params, ctx, x, m.other(x, len(ctx)), r.Intn(1+r.Intn(60)))
			}
		}
	}
	counts.holdMet(t, 50, 0, impl.CodeFuel, impl.CodeLevel, impl.CodeFun, impl.CodeArg, impl.CodeSort, impl.CodeHole)
	counts.holdMet(t, 5, impl.CodeProj)
}

// checkTexts are terms in convContext by their types, with names for terms of
// these types in them.
func checkTexts() map[string][]string {
	return map[string][]string{
		"aNat": {
			"#11", "#10", "two", "deuce", "one", "Nat.zero", "[. Prod 0 pair]", "[Nat.succ aNat]", "[[add aNat] aNat]", "[#9 aNat]", "[aFun aNat]", "[slow aNat]",
			"[[more aNat] aNat]", "[[unary aNat] aNat]", "[[[nary two] aNat] aNat]", "[. Prod 0 aPair]", "[. Prod 1 aPair]", "[of aFun]", "[= x Nat aNat aNat]", "[= x Nat aNat [[add #0] #0]]",
			"[[^ x 0 Nat aNat] aNat]", "[[^ x 0 aType aNat] [any{1} aType]]", "[[id{1} Nat] aNat]", "[[[^ X 0 *1 [^ x 0 #0 #0]] Nat] aNat]", "[= X *1 Nat [[id{1} #0] aNat]]",
			"[[by two] [[Eq.refl{1} Nat] two]]", "[= n Nat two [[by #0] [[Eq.refl{1} Nat] deuce]]]", "[[by deuce] [[Eq.refl{1} Nat] aNat]]",
		},
		"aPair": {"#7", "#6", "[[[[Prod.mk{0,0} Nat] Nat] aNat] aNat]", "[= p [[Prod{0,0} Nat] Nat] aPair #0]", "[[id{1} [[Prod{0,0} Nat] Nat]] aPair]", "[= x Nat aNat [[[[Prod.mk{0,0} Nat] Nat] #0] aNat]]"},
		"aFun": {
			"#9", "#8", "fun", "slow", "Nat.succ", "[add aNat]", "[more aNat]", "[^ x 0 Nat aNat]", "[^ x 0 Nat [[add #0] aNat]]", "[^ x 2 [[id{2} *1] Nat] aNat]", "[= f Fun aFun #0]", "[[id{1} Fun] aFun]",
			"[= x Nat aNat [^ y 0 Nat [[add #0] #1]]]",
		},
		"aType": {
			"Nat", "Unit", "#0", "set", "[fam aNat]", "[! x 0 aType aType]", "[! x 0 Nat [#4 #0]]", "[[id{2} *1] aType]", "[[Prod{0,0} Nat] Nat]", "Fun", "[#3 aNat]", "[[[Eq{1} Nat] aNat] aNat]",
			"[= X *1 aType #0]",
		},
	}
}

// checkMaker makes terms in convContext, most of which have a type: of a thousand
// parts, so many are of another one.
type checkMaker struct {
	r      *rand.Rand
	texts  map[string][]string
	faults int
}

func (m *checkMaker) make(typ string, depth int) tree {
	if m.r.Intn(1000) < m.faults {
		typ = []string{"aNat", "aPair", "aFun", "aType", ""}[m.r.Intn(5)]
	}
	if typ == "" {
		return treeOf(read([]string{"?0", "*w", "[two two]", "ever", "[ever two]", "*u", "#2"}[m.r.Intn(7)]))
	}
	x := treeOf(read(m.texts[typ][m.r.Intn(len(m.texts[typ]))]))
	for depth <= 0 && len(x.kids) > 0 {
		x = treeOf(read(m.texts[typ][m.r.Intn(len(m.texts[typ]))]))
	}
	return x.changed(0, func(x tree, under int) tree {
		if m.texts[x.node.S] == nil {
			return x
		}
		return m.make(x.node.S, depth-1).lifted(0, under)
	})
}

// Terms most of which have a type, and with a mistake here and there.
func TestCheckingMadeTerms(t *testing.T) {
	t.Parallel()
	r := rand.New(rand.NewSource(103))
	e, ctx := convEnv(), convContext()
	w := slowStepsIn(e)
	counts := checkCounts{}
	for i := range 1500 {
		m := &checkMaker{r, checkTexts(), 60 * (i % 3)}
		typ := []string{"aNat", "aNat", "aPair", "aFun", "aType"}[r.Intn(5)]
		x, y := m.make(typ, 1+r.Intn(5)), m.make("aType", r.Intn(3))
		if x.size() > 250 {
			continue
		}
		fuel := r.Intn(1 + r.Intn(400))
		if r.Intn(2) == 0 {
			fuel = impl.MaxFuel
		}
		types := append(copyTerms(ctx), y.term(), x.lifted(0, 1).term())
		for _, q := range []checkAsk{
			{askInfer, []string{"u"}, ctx, x.term(), impl.Term{}},
			{askCheck, nil, ctx, x.term(), y.term()},
			{askCtx, nil, types, impl.Term{}, impl.Term{}},
		} {
			counts[q.holdSlow(t, w, fuel).code]++
		}
	}
	counts.holdMet(t, 50, 0, impl.CodeFuel, impl.CodeArg, impl.CodeSort)
	counts.holdMet(t, 10, impl.CodeFun, impl.CodeProj, impl.CodeHole, impl.CodeLevel)
	if counts[0] < 500 {
		t.Errorf("only %d have a type", counts[0])
	}
}

// Contexts, terms and names with a mistake.
func TestCheckingOfAnyInput(t *testing.T) {
	t.Parallel()
	r := rand.New(rand.NewSource(104))
	counts := checkCounts{}
	refused := 0
	for range 80 {
		e := randomEnv(r)
		m, w := newStepMaker(r, e.e), slowStepsIn(e.e)
		for range 5 {
			ctx := m.context(1 + r.Intn(4))
			if at := r.Intn(len(ctx)); r.Intn(4) == 0 {
				ctx[at] = m.spoiltTerm(ctx[at])
			}
			x := m.small(func() impl.Term { return m.open(r.Intn(4), len(ctx)) })
			y := m.other(x, len(ctx))
			switch r.Intn(4) {
			case 0:
				x = m.spoiltTerm(x)
			case 1:
				y = m.spoiltTerm(y)
			}
			valid := true
			for place, typ := range ctx {
				valid = valid && slowKnownFor(e.e, m.table, typ, place)
			}
			first, second := slowKnownFor(e.e, m.table, x, len(ctx)), slowKnownFor(e.e, m.table, y, len(ctx))
			for way, good := range []bool{valid && first, valid && first && second, valid} {
				q := checkAsk{way, []string{"u", "q"}, ctx, x, y}
				if good {
					counts[q.holdSlow(t, w, r.Intn(40)).code]++
				} else {
					refused++
					q.holdRefused(t, "any input", e.e)
				}
				q.params = append(q.params, []string{"u", "", "."}[r.Intn(3)])
				q.holdRefused(t, "params", e.e)
			}
		}
		if broken := e.spoiltEnv(); !slowEnvOk(broken) {
			holdRefusedEverywhere(t, "an environment with a mistake", broken, nil)
		}
	}
	if refused < 100 || refused > 900 {
		t.Errorf("%d are refused", refused)
	}
}
