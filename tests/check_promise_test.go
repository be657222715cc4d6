package tests

import (
	"math/rand"
	"slices"
	"testing"

	"loop.example/g00005/impl"
)

// secondly asks a second checker, which compares canonical forms.
func (q checkAsk) secondly(w *slowSteps) checkAnswer {
	c := &slowChecker{params: q.params}
	x, work, code := w.slowly(5000, func(m *slowMeter) tree {
		c.slowMeter = m
		c.same = func(ctx []tree, a, b tree) bool {
			return sameTree(m.canonType(ctx, a), m.canonType(ctx, b))
		}
		return q.walk(c)
	})
	if code == 0 {
		c.place = 0
	}
	return checkAnswer{x.told(), work, code, c.place}
}

// holdSecond is promise 12: what the checker takes, the second one takes too, and
// what it refuses, it refuses, at the same place. It is false where the second one
// can't tell.
func (q checkAsk) holdSecond(t *testing.T, w *slowSteps) bool {
	t.Helper()
	first, second := q.ask(w.e, impl.MaxFuel), q.secondly(w)
	if first.code == impl.CodeFuel || second.code == impl.CodeFuel || second.code == slowLost {
		return false
	}
	first.work, second.work = 0, 0
	if first != second {
		t.Fatalf("%s\n%s\n%s: the second one %s", q.text(), written(q.x), first.text(), second.text())
	}
	return true
}

func TestSecondChecker(t *testing.T) {
	t.Parallel()
	e, ctx := convEnv(), convContext()
	w := slowStepsIn(e)
	for _, text := range []string{
		"[of [^ x 0 Nat [#10 [[add #0] Nat.zero]]]]",
		"[^ a 0 [#3 two] [[^ k 0 [! h 0 [#4 deuce] *0] [^ p 0 [#0 #1] #0]] [^ h 0 [#4 two] *0]]]",
		// proofs of one proposition, functions and pairs by eta, and terms of Unit
		"[[^ P 0 [! h 0 [#3 #11] *1] [^ x 0 [#0 #3] [[id{1} [#1 #2]] #0]]] [^ h 0 [#3 #11] Nat]]",
		"[^ P 0 [! h 0 [#3 #11] *1] [^ x 0 [#0 #3] [[id{1} [#1 #3]] #0]]]",
		"[^ P 0 [! f 0 Fun *1] [^ x 0 [#0 #10] [[id{1} [#1 [^ n 0 Nat [#12 #0]]]] #0]]]",
		"[^ P 0 [! p 0 [[Prod{0,0} Nat] Nat] *1] [^ x 0 [#0 #8] [[id{1} [#1 [[[[Prod.mk{0,0} Nat] Nat] [. Prod 0 #9]] [. Prod 1 #9]]]] #0]]]",
		"[^ P 0 [! u 0 Unit *1] [^ x 0 [#0 #6] [[id{1} [#1 #6]] #0]]]",
		"[^ P 0 [! n 0 Nat *1] [^ x 0 [#0 two] [[id{1} [#1 [Nat.succ uno]]] #0]]]",
		"[[by four] [[Eq.refl{1} Nat] four]]",
	} {
		q := checkAsk{way: askInfer, params: checkParams(), ctx: ctx, x: read(text)}
		if !q.holdSecond(t, w) {
			t.Errorf("%s: it can't be told", text)
		}
	}
	for _, text := range []string{
		"[^ P 0 [! f 0 Fun *1] [^ x 0 [#0 #10] [[id{1} [#1 #10]] #0]]]",
		"[^ P 0 [! n 0 Nat *1] [^ x 0 [#0 two] [[id{1} [#1 uno]] #0]]]",
		"[^ P 0 [! p 0 [[Prod{0,0} Nat] Nat] *1] [^ x 0 [#0 #8] [[id{1} [#1 #8]] #0]]]",
		"[[by four] [[Eq.refl{1} Nat] two]]",
	} {
		q := checkAsk{way: askInfer, params: checkParams(), ctx: ctx, x: read(text)}
		if answer := q.ask(e, impl.MaxFuel); answer.code != impl.CodeArg || !q.holdSecond(t, w) {
			t.Errorf("%s: %s", text, answer.text())
		}
	}
	r := rand.New(rand.NewSource(105))
	taken, refused := 0, 0
	for i := range 500 {
		m := &checkMaker{r, checkTexts(), 150 * (i % 2)}
		x := m.make([]string{"aNat", "aPair", "aFun", "aType"}[r.Intn(4)], 1+r.Intn(3))
		q := checkAsk{way: askInfer, params: []string{"u"}, ctx: ctx, x: x.term()}
		if x.size() > 150 || !q.holdSecond(t, w) {
			continue
		}
		if q.ask(e, impl.MaxFuel).code == 0 {
			taken++
		} else {
			refused++
		}
	}
	if taken < 150 || refused < 50 {
		t.Errorf("%d are taken, %d refused", taken, refused)
	}
}

// placed is a node of a term with its position, the types of the variables around
// it, and the place that a code from it has.
type placed struct {
	x     tree
	at    int
	ctx   []tree
	place int
	inPut bool
}

// places are all nodes of a tree with so many in front. Within a TermLet's b they
// have the place of the outermost one.
func (x tree) places(front int, ctx []tree, put int) []placed {
	var list []placed
	own := front + x.size() - 1
	for i, kid := range x.kids {
		inner, hold := ctx, put
		if x.inside(i) > 0 {
			inner = underOne(ctx, x.kids[0])
			if x.node.K == impl.TermLet && put < 0 {
				hold = own
			}
		}
		list = append(list, kid.places(front, inner, hold)...)
		front += kid.size()
	}
	place := own
	if put >= 0 {
		place = put
	}
	return append(list, placed{x, own, ctx, place, put >= 0})
}

// swapped has another tree at a position.
func (p placed) swapped(whole, by tree) impl.Term {
	at := p.at
	return whole.changedAtPlace(&at, by).term()
}

func (x tree) changedAtPlace(at *int, by tree) tree {
	y := tree{node: x.node}
	if *at == x.size()-1 {
		*at = -1
		return by
	}
	for _, kid := range x.kids {
		if size := kid.size(); *at >= 0 && *at < size {
			y.kids = append(y.kids, kid.changedAtPlace(at, by))
		} else {
			*at -= size
			y.kids = append(y.kids, kid)
		}
	}
	return y
}

func termsOf(trees []tree) []impl.Term {
	var list []impl.Term
	for _, x := range trees {
		list = append(list, x.term())
	}
	return list
}

// typedTerms has a function called with many closed terms that have a type.
func typedTerms(t *testing.T, seed int64, count int, do func(r *rand.Rand, e impl.Env, x tree)) {
	t.Helper()
	r := rand.New(rand.NewSource(seed))
	e := stepEnv()
	lost := 0
	for _, text := range dependent() {
		do(r, e, treeOf(read(text)))
	}
	for range count {
		if !typed(func() {
			m := &typedMaker{typer: newTyper(e), r: r}
			do(r, e, m.term(m.whole(1), 1+r.Intn(3)))
		}) {
			lost++
		}
	}
	if lost > count/4 {
		t.Errorf("%d were too long", lost)
	}
}

// A hole in the place of any node is told there, or at the outermost TermLet that
// it stands in the b of.
func TestPlacesOfHoles(t *testing.T) {
	t.Parallel()
	puts, plain := 0, 0
	typedTerms(t, 106, 60, func(r *rand.Rand, e impl.Env, x tree) {
		if x.size() > 300 {
			return
		}
		for _, p := range x.places(0, nil, -1) {
			// a hole has fewer nodes than what stood there
			place := p.at - p.x.size() + 1
			if p.inPut {
				place = p.place - p.x.size() + 1
				puts++
			} else {
				plain++
			}
			_, _, code, at := impl.Infer(e, nil, nil, p.swapped(x, treeOf(hole(0))), impl.MaxFuel)
			if code != impl.CodeFuel && (code != impl.CodeHole || at != place) {
				t.Fatalf("%s\na hole at %d: code %d at %d, not at %d", x.text(), p.at, code, at, place)
			}
		}
	})
	if puts < 200 || plain < 1000 {
		t.Errorf("%d in TermLets, %d others", puts, plain)
	}
}

// others are closed terms of many types.
func otherArguments() []string {
	return []string{
		"two", "Unit.star", "Nat", "Nat.succ", "*0", "True.intro", "True", "[Vec.nil{1} Nat]", "[any{2} [[Vec{1} Nat] four]]", "[^ x 0 Nat #0]", "[^ x 0 Nat Nat]",
		"[[[[Prod.mk{0,0} Nat] Nat] two] two]", "[[Prod{0,0} Nat] Nat]", "[[Eq.refl{1} Nat] two]", "[! x 0 Nat Nat]", "[List.nil{0} Nat]",
	}
}

// Promise 12: an argument of another type is refused, at its TermApp.
func TestInferRefusesOtherArguments(t *testing.T) {
	t.Parallel()
	counts, kept := 0, 0
	typedTerms(t, 107, 150, func(r *rand.Rand, e impl.Env, x tree) {
		if x.size() > 600 {
			return
		}
		for _, p := range x.places(0, nil, -1) {
			if p.x.node.K != impl.TermApp || r.Intn(3) > 0 {
				continue
			}
			old, texts := p.x.kids[1], otherArguments()
			other := treeOf(read(texts[r.Intn(len(texts))]))
			same, ok := sameTypes(e, p.ctx, old, other, p.inPut)
			if !ok {
				continue
			}
			y := p.swapped(x, tree{p.x.node, []tree{p.x.kids[0], other}})
			_, _, code, at := impl.Infer(e, nil, nil, y, impl.MaxFuel)
			if code == impl.CodeFuel {
				continue
			}
			if same {
				// it may stand there, though others may not take it then
				kept++
				if code == impl.CodeArg && at == p.place+other.size()-old.size() && !p.inPut {
					t.Fatalf("%s\n%s at %d: code %d at %d", x.text(), other.text(), p.at, code, at)
				}
				continue
			}
			counts++
			if code != impl.CodeArg || at != p.place+other.size()-old.size() {
				t.Fatalf("%s\n%s at %d: code %d at %d", x.text(), other.text(), p.at, code, at)
			}
		}
	})
	if counts < 1000 || kept < 20 {
		t.Errorf("only %d of another type, %d of the same one", counts, kept)
	}
}

// sameTypes says whether two terms are of one type. Under a TermLet's variable
// that is told only by the names of two families: what is put for it may make
// others the same.
func sameTypes(e impl.Env, ctx []tree, a, b tree, inPut bool) (same, ok bool) {
	types := termsOf(ctx)
	first, _, code := impl.TypeOf(e, types, a.term(), impl.MaxFuel)
	second, _, other := impl.TypeOf(e, types, b.term(), impl.MaxFuel)
	if code != 0 || other != 0 {
		return false, false
	}
	if inPut {
		first, _, code = impl.Whnf(e, first, true, impl.MaxFuel)
		second, _, other = impl.Whnf(e, second, true, impl.MaxFuel)
		f, _ := impl.Spine(first)
		g, _ := impl.Spine(second)
		return false, code == 0 && other == 0 && f.Nodes[0].K == impl.TermConst && g.Nodes[0].K == impl.TermConst && f.Nodes[0].S != g.Nodes[0].S
	}
	same, _, code = impl.ConvTypes(e, types, first, second, impl.MaxFuel)
	return same, code == 0
}

// inferred is false where fuel or room runs out; it fails for a term that is not
// taken.
func inferred(t *testing.T, what string, e impl.Env, ctx []impl.Term, x impl.Term) (impl.Term, bool) {
	t.Helper()
	typ, _, code, place := impl.Infer(e, impl.LevelsOf(x), ctx, x, impl.MaxFuel)
	if code == impl.CodeFuel || code == impl.CodeSize {
		return typ, false
	}
	if code != 0 {
		t.Fatalf("%s: code %d at %d\n%s", what, code, place, written(x))
	}
	return typ, true
}

func holdSameInferred(t *testing.T, what string, e impl.Env, ctx []impl.Term, a, b impl.Term) {
	t.Helper()
	for range 2 {
		same, _, code := impl.ConvTypes(e, ctx, a, b, impl.MaxFuel)
		if code != impl.CodeFuel && code != impl.CodeSize && (code != 0 || !same) {
			t.Fatalf("%s: %v, code %d\n%s\n%s", what, same, code, written(a), written(b))
		}
		a, b = b, a
	}
}

// holdInferred is what is to be said of each term that Infer takes: its type is a
// type, TypeOf gives the same one (promise 8), Check takes it, and behind a step,
// at the Whnf and at the normal form it has the same one (promise 7).
func holdInferred(t *testing.T, e impl.Env, ctx []impl.Term, x impl.Term) {
	t.Helper()
	typ, ok := inferred(t, "a term", e, ctx, x)
	if !ok {
		return
	}
	if sort, ok := inferred(t, "the type of a term", e, ctx, typ); ok {
		if sort, _, code := impl.Whnf(e, sort, true, impl.MaxFuel); code == 0 && sort.Nodes[len(sort.Nodes)-1].K != impl.TermSort {
			t.Fatalf("%s\nhas the type %s, which is none", written(x), written(typ))
		}
	}
	plain, _, code := impl.TypeOf(e, ctx, x, impl.MaxFuel)
	if code == 0 {
		holdSameInferred(t, "TypeOf", e, ctx, typ, plain)
	} else if code != impl.CodeSize && code != impl.CodeFuel {
		t.Fatalf("%s: TypeOf has code %d", written(x), code)
	}
	if _, code, place := impl.Check(e, impl.LevelsOf(x), ctx, x, plain, impl.MaxFuel); code != 0 && code != impl.CodeFuel && code != impl.CodeSize {
		t.Fatalf("%s: Check has code %d at %d", written(x), code, place)
	}
	for _, y := range forms(rand.New(rand.NewSource(1)), e, x) {
		if other, ok := inferred(t, "a form of "+written(x), e, ctx, y); ok {
			holdSameInferred(t, "a form of "+written(x), e, ctx, typ, other)
		}
	}
}

func TestInferKeepsTypes(t *testing.T) {
	t.Parallel()
	counts := make([]int, impl.TermHole+1)
	typedTerms(t, 108, 60, func(r *rand.Rand, e impl.Env, x tree) {
		holdInferred(t, e, nil, x.term())
		byKind := make([][]placed, impl.TermHole+1)
		for _, p := range x.places(0, nil, -1) {
			// under a TermLet's variable it may have no type
			if !p.inPut {
				byKind[p.x.node.K] = append(byKind[p.x.node.K], p)
			}
		}
		for kind, list := range byKind {
			if len(list) > 0 {
				p := list[r.Intn(len(list))]
				counts[kind]++
				holdInferred(t, e, termsOf(p.ctx), p.x.term())
			}
		}
	})
	for _, kind := range []int{impl.TermVar, impl.TermConst, impl.TermApp, impl.TermLam, impl.TermPi, impl.TermLet, impl.TermProj} {
		if counts[kind] < 10 {
			t.Errorf("only %d of kind %d", counts[kind], kind)
		}
	}
	r := rand.New(rand.NewSource(109))
	for range 150 {
		m := &checkMaker{r, checkTexts(), 0}
		x := m.make([]string{"aNat", "aPair", "aFun", "aType"}[r.Intn(4)], 1+r.Intn(4)).term()
		if _, _, code, _ := impl.Infer(convEnv(), nil, convContext(), x, impl.MaxFuel); code == 0 {
			holdInferred(t, convEnv(), convContext(), x)
		}
	}
}

// The types of a context hang on each other: each is one in those in front of it,
// and no other one is taken in its place.
func TestCheckCtxOfManyTypes(t *testing.T) {
	e := convEnv()
	var ctx []impl.Term
	for i := range impl.MaxCtx {
		typ := constant("Nat")
		if i%3 == 2 {
			// of the number just in front, and the one two in front
			typ = app(constant("Eq", succ(zero(), 1)), constant("Nat"), variable(0), variable(1))
		}
		ctx = append(ctx, typ)
	}
	q := checkAsk{way: askCtx, ctx: ctx}
	each := 3 * (impl.MaxCtx / 3)
	q.hold(t, e, impl.MaxFuel, checkAnswer{work: each})
	q.hold(t, e, each-1, checkAnswer{"", each - 1, impl.CodeFuel, impl.MaxCtx/3*3 - 1})
	for _, place := range []int{0, 1, 2, 100, 101, 102, impl.MaxCtx - 1} {
		for _, c := range []struct {
			text string
			code int
		}{{"two", impl.CodeSort}, {"?0", impl.CodeHole}, {"[two two]", impl.CodeFun}, {"[Nat.succ Nat]", impl.CodeArg}, {"*w", impl.CodeLevel}, {"[. Prod 0 two]", impl.CodeProj}} {
			q.ctx = slices.Clone(ctx)
			q.ctx[place] = read(c.text)
			if got := q.ask(e, impl.MaxFuel); got.code != c.code || got.place != place {
				t.Errorf("%s at %d: %s", c.text, place, got.text())
			}
		}
	}
	// another type for a number: what hangs on it is none any more
	q.ctx = slices.Clone(ctx)
	q.ctx[101-101%3] = constant("Unit")
	if got := q.ask(e, impl.MaxFuel); got.code != impl.CodeArg || got.place != 101-101%3+2 {
		t.Errorf("another type: %s", got.text())
	}
}
