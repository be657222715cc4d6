package tests

import (
	"slices"
	"testing"

	"loop.example/g00005/impl"
)

// count is for one step or comparison that is begun.
func (w *slowMeter) count() {
	if w.work == w.fuel {
		panic(slowEnd{impl.CodeFuel})
	}
	w.work++
}

// convEnv has more than typeEnv: definitions of several heights, and axioms that
// take functions, proofs and types.
func convEnv() impl.Env {
	return behind(typeEnv(),
		declared(impl.KindDef, "one", "", "Nat", "[Nat.succ Nat.zero]"),
		declared(impl.KindDef, "uno", "", "Nat", "[Nat.succ Nat.zero]"),
		declared(impl.KindDef, "deuce", "", "Nat", "two"),
		declared(impl.KindDef, "trey", "", "Nat", "[Nat.succ deuce]"),
		declared(impl.KindDef, "three", "", "Nat", "[Nat.succ two]"),
		declared(impl.KindDef, "first", "", "[! a 0 Nat [! b 0 Nat Nat]]", "[^ a 0 Nat [^ b 0 Nat #1]]"),
		declared(impl.KindDef, "second", "", "[! a 0 Nat [! b 0 Nat Nat]]", "[^ a 0 Nat [^ b 0 Nat #0]]"),
		declared(impl.KindAxiom, "by", "", "[! n 0 Nat [! h 0 [[[Eq{1} Nat] #0] two] Nat]]", ""),
		declared(impl.KindAxiom, "of", "", "[! f 0 [! n 0 Nat Nat] Nat]", ""),
		declared(impl.KindAxiom, "at", "", "[! n 0 Nat [! v 0 [[Vec{1} Nat] #0] [[Vec{1} Nat] [Nat.succ #1]]]]", ""),
		declared(impl.KindDef, "Unary", "", "*1", "[! n 0 Nat Fun]"),
		declared(impl.KindAxiom, "unary", "", "Unary", ""),
		declared(impl.KindDef, "FunPair", "", "*1", "[[Prod{0,0} [! n 0 Nat Nat]] Nat]"),
	)
}

// convContext has the variables x, y, f, g, p, q, u, w, P, h, k and A: 11 to 0.
func convContext() []impl.Term {
	return contextOf("Nat", "Nat", "[! n 0 Nat Nat]", "[! m 1 Nat Nat]", "[[Prod{0,0} Nat] Nat]", "[[Prod{0,0} Nat] Nat]",
		"Unit", "Unit", "[! n 0 Nat *0]", "[#0 #8]", "[#1 #9]", "*1")
}

// underOne gives a context one type more; no two calls share what they put
// there.
func underOne(ctx []tree, typ tree) []tree {
	return append(slices.Clone(ctx), typ)
}

// compareAt compares two trees at a type, with the words of the document.
func (w *slowMeter) compareAt(ctx []tree, a, b, typ tree) bool {
	w.count()
	if sameTree(a, b) {
		return true
	}
	typ = w.whnf(typ, true)
	switch {
	case typ.node.K == impl.TermPi:
		a, b = w.applied(a), w.applied(b)
		return w.compareAt(underOne(ctx, typ.kids[0]), a, b, typ.kids[1])
	case typ.node.K == impl.TermSort:
		return w.asTheyAre(ctx, a, b)
	case w.irrelevant(ctx, typ):
		return true
	}
	if d, ok := w.structure(typ); ok {
		for i := range slowFields(d, 0) {
			x := w.fits(tree{impl.Node{K: impl.TermProj, S: d.Name, N: i}, []tree{a}})
			y := w.fits(tree{impl.Node{K: impl.TermProj, S: d.Name, N: i}, []tree{b}})
			if !w.compareAt(ctx, x, y, w.fieldType(typ, i, a)) {
				return false
			}
		}
		return true
	}
	return w.asTheyAre(ctx, a, b)
}

// applied is a term lifted and applied to the variable of one binder more.
func (w *slowMeter) applied(x tree) tree {
	return w.fits(apply(w.fits(x.lifted(0, 1)), []tree{treeOf(variable(0))}))
}

func (w *slowMeter) irrelevant(ctx []tree, typ tree) bool {
	return impl.LevelSign(w.sortOf(ctx, typ)) == 1
}

// structure is false for what is no structure with all its arguments.
func (w *slowMeter) structure(typ tree) (impl.Decl, bool) {
	head, args := typ.spine()
	if head.node.K != impl.TermConst || w.table[head.node.S].Kind != impl.InfoFamily {
		return impl.Decl{}, false
	}
	d := w.decl(head.node.S)
	return d, impl.IsStructure(d) && len(args) == d.Fixed
}

func (w *slowMeter) compareTypes(ctx []tree, a, b tree) bool {
	w.count()
	return sameTree(a, b) || w.asTheyAre(ctx, a, b)
}

func (w *slowMeter) asTheyAre(ctx []tree, a, b tree) bool {
	a = w.whnf(a, false)
	b = w.whnf(b, false)
	for !sameTree(a, b) {
		p, q := w.blocked(a), w.blocked(b)
		if p == "" && q == "" {
			return w.compareStill(ctx, a, b)
		}
		if p == q {
			f, args := a.spine()
			g, others := b.spine()
			if f.node.K == impl.TermConst && f.node.S == p && g.node.K == impl.TermConst && g.node.S == p && len(args) == len(others) && w.compareSpines(ctx, a, b) {
				return true
			}
		}
		stepA, stepB := p != "", q != ""
		if stepA && stepB {
			heights := slowHeights(w.e)
			stepA, stepB = heights[p] >= heights[q], heights[q] >= heights[p]
		}
		if stepA {
			a = w.unfold(a)
		}
		if stepB {
			b = w.unfold(b)
		}
	}
	return true
}

// unfold does one step, and then those up to the Whnf that is not deep.
func (w *slowMeter) unfold(x tree) tree {
	y, _ := w.next(x)
	w.count()
	return w.whnf(w.fits(y), false)
}

func (w *slowMeter) compareStill(ctx []tree, a, b tree) bool {
	if a.node.K == impl.TermSort && b.node.K == impl.TermSort {
		return impl.LevelSame(a.node.Levels[0], b.node.Levels[0])
	}
	if a.node.K == impl.TermPi && b.node.K == impl.TermPi {
		return w.compareTypes(ctx, a.kids[0], b.kids[0]) && w.compareTypes(underOne(ctx, a.kids[0]), a.kids[1], b.kids[1])
	}
	return w.compareSpines(ctx, a, b)
}

func (w *slowMeter) compareSpines(ctx []tree, a, b tree) bool {
	f, args := a.spine()
	g, others := b.spine()
	if len(args) != len(others) || f.node.K != g.node.K || f.node.N != g.node.N || f.node.S != g.node.S {
		return false
	}
	switch f.node.K {
	case impl.TermVar, impl.TermHole:
	case impl.TermConst:
		if !slices.EqualFunc(f.node.Levels, g.node.Levels, impl.LevelSame) {
			return false
		}
	case impl.TermProj:
		if !w.compareSpines(ctx, f.kids[0], g.kids[0]) {
			return false
		}
	default:
		return false
	}
	if len(args) == 0 {
		return true
	}
	typ := w.typeOf(ctx, f)
	for i, arg := range args {
		if typ = w.whnf(typ, true); typ.node.K != impl.TermPi {
			panic(slowEnd{impl.CodeFun})
		}
		if !w.compareAt(ctx, arg, others[i], typ.kids[0]) {
			return false
		}
		typ = w.fits(typ.kids[1].put(arg))
	}
	return true
}

// slowAnswer is slowly for what says yes or no. It gives the size of the greatest
// tree that was made, too.
func (w *slowSteps) slowAnswer(fuel int, exact bool, do func(m *slowMeter) bool) (yes bool, work, code, most int) {
	_, work, code = w.slowly(fuel, func(m *slowMeter) tree {
		defer func() { most = m.most }()
		m.exact = exact
		yes = do(m)
		return tree{}
	})
	return yes && code == 0, work, code, most
}

// The three ways to ask.
const (
	askConv = iota
	askTypes
	askIrrelevant
)

// convAsk is a question of the chapter; b is nothing for Irrelevant.
type convAsk struct {
	way  int
	ctx  []impl.Term
	a, b impl.Term
}

func (q convAsk) text() string {
	text := []string{"Conv", "ConvTypes", "Irrelevant"}[q.way] + ": " + short(told(q.a))
	if q.way == askIrrelevant {
		return text
	}
	return text + ", " + short(told(q.b))
}

// turned asks for the other one first.
func (q convAsk) turned() convAsk {
	q.a, q.b = q.b, q.a
	return q
}

func (q convAsk) ask(e impl.Env, fuel int) (bool, int, int) {
	switch q.way {
	case askConv:
		return impl.Conv(e, q.ctx, q.a, q.b, fuel)
	case askTypes:
		return impl.ConvTypes(e, q.ctx, q.a, q.b, fuel)
	}
	return impl.Irrelevant(e, q.ctx, q.a, fuel)
}

func (q convAsk) slowly(w *slowSteps, fuel int, exact bool) (bool, int, int, int) {
	return w.slowAnswer(fuel, exact, func(m *slowMeter) bool {
		ctx, a := treesOf(q.ctx), treeOf(q.a)
		switch q.way {
		case askConv:
			typ := m.typeOf(ctx, a)
			return m.compareAt(ctx, a, treeOf(q.b), typ)
		case askTypes:
			return m.compareTypes(ctx, a, treeOf(q.b))
		}
		return m.irrelevant(ctx, a)
	})
}

// hold fails unless a question has this answer.
func (q convAsk) hold(t *testing.T, e impl.Env, fuel int, same bool, work, code int) {
	t.Helper()
	got, gotWork, gotCode := q.ask(e, fuel)
	if got != same || gotWork != work || gotCode != code {
		t.Errorf("%s, fuel %d: %v, work %d, code %d, not %v, work %d, code %d", q.text(), fuel, got, gotWork, gotCode, same, work, code)
	}
}

// holdSlow holds an answer against the slow way, where that can tell.
func (q convAsk) holdSlow(t *testing.T, w *slowSteps, fuel int) (bool, int) {
	t.Helper()
	same, work, code, _ := q.slowly(w, fuel, false)
	if code == slowLost {
		return false, code
	}
	got, gotWork, gotCode := q.ask(w.e, fuel)
	if got != same || gotWork != work || gotCode != code {
		t.Fatalf("%d: %s\n%s, fuel %d: %v, work %d, code %d, not %v, work %d, code %d", q.way, told(q.a), told(q.b), fuel, got, gotWork, gotCode, same, work, code)
	}
	return same, code
}

// convCase is two terms with the answer and the work for it; b is no text for
// Irrelevant.
type convCase struct {
	a, b string
	same bool
	work int
	code int
}

// holdConvCase holds an answer, and the slow way's beside it, with every fuel up
// to more than it needs, and with the greatest one: promise 11.
func holdConvCase(t *testing.T, w *slowSteps, q convAsk, c convCase) {
	t.Helper()
	for fuel := 0; fuel <= c.work+2; fuel++ {
		same, work, code := c.same, c.work, c.code
		if fuel < c.work {
			same, work, code = false, fuel, impl.CodeFuel
		}
		q.hold(t, w.e, fuel, same, work, code)
		if got, gotWork, gotCode, _ := q.slowly(w, fuel, false); got != same || gotWork != work || gotCode != code {
			t.Errorf("%s, fuel %d: by the slow way %v, work %d, code %d", q.text(), fuel, got, gotWork, gotCode)
		}
	}
	q.hold(t, w.e, impl.MaxFuel, c.same, c.work, c.code)
	for _, fuel := range []int{-1, impl.MaxFuel + 1} {
		q.hold(t, w.e, fuel, false, 0, impl.CodeInput)
	}
}

func holdConvCases(t *testing.T, way int, e impl.Env, ctx []impl.Term, cases []convCase) {
	t.Helper()
	w, before := slowStepsIn(e), copyTerms(ctx)
	for _, c := range cases {
		q := convAsk{way: way, ctx: ctx, a: read(c.a)}
		if way != askIrrelevant {
			q.b = read(c.b)
		}
		holdConvCase(t, w, q, c)
		if written(q.a) != c.a || way != askIrrelevant && written(q.b) != c.b {
			t.Errorf("%s: a term was changed", q.text())
		}
	}
	if !equalLists(ctx, before) {
		t.Errorf("the context was changed")
	}
}
