package tests

import (
	"fmt"
	"slices"
	"testing"

	"loop.example/g00005/impl"
)

// slowChecker looks at everything with the words of the document. The place is
// that of the node whose rule is on; while it is held, it stays.
type slowChecker struct {
	*slowMeter
	params []string
	place  int
	held   bool
	same   func(ctx []tree, a, b tree) bool
}

func (c *slowChecker) at(place int) {
	if !c.held {
		c.place = place
	}
}

func (c *slowChecker) refuse(code int) {
	panic(slowEnd{code})
}

// infer is for a tree with so many nodes of the whole in front. It gives how many
// there are up to its end, too.
func (c *slowChecker) infer(ctx []tree, x tree, front int) (tree, int) {
	switch x.node.K {
	case impl.TermApp:
		return c.inferApp(ctx, x, front)
	case impl.TermLam, impl.TermPi:
		return c.inferBinder(ctx, x, front)
	case impl.TermLet:
		return c.inferLet(ctx, x, front)
	case impl.TermProj:
		typ, own := c.infer(ctx, x.kids[0], front)
		c.at(own)
		typ = c.whnf(typ, true)
		if d, ok := c.structure(typ); !ok || d.Name != x.node.S {
			c.refuse(impl.CodeProj)
		}
		return c.fieldType(typ, x.node.N, x.kids[0]), own + 1
	}
	c.at(front)
	for _, name := range impl.LevelsOf(x.term()) {
		if !slices.Contains(c.params, name) {
			c.refuse(impl.CodeLevel)
		}
	}
	return c.typeOf(ctx, x), front + 1
}

// mustLevel is for a type of a kid of the node at own, which must be a type.
func (c *slowChecker) mustLevel(typ tree, own int) impl.Level {
	c.at(own)
	if typ = c.whnf(typ, true); typ.node.K != impl.TermSort {
		c.refuse(impl.CodeSort)
	}
	return typ.node.Levels[0]
}

func (c *slowChecker) inferBinder(ctx []tree, x tree, front int) (tree, int) {
	own := front + x.size() - 1
	typ, middle := c.infer(ctx, x.kids[0], front)
	from := c.mustLevel(typ, own)
	typ, _ = c.infer(underOne(ctx, x.kids[0]), x.kids[1], middle)
	if x.node.K == impl.TermLam {
		c.at(own)
		return c.fits(tree{impl.Node{K: impl.TermPi, S: x.node.S, M: x.node.M}, []tree{x.kids[0], typ}}), own + 1
	}
	to := c.mustLevel(typ, own)
	return c.universe(pair(impl.LevelImax, from, to)), own + 1
}

func (c *slowChecker) inferApp(ctx []tree, x tree, front int) (tree, int) {
	f, middle := c.infer(ctx, x.kids[0], front)
	a, own := c.infer(ctx, x.kids[1], middle)
	c.at(own)
	if f.node.K != impl.TermPi {
		f = c.whnf(f, true)
	}
	if f.node.K != impl.TermPi {
		c.refuse(impl.CodeFun)
	}
	if !c.same(ctx, a, f.kids[0]) {
		c.refuse(impl.CodeArg)
	}
	return c.fits(f.kids[1].put(x.kids[1])), own + 1
}

func (c *slowChecker) inferLet(ctx []tree, x tree, front int) (tree, int) {
	own := front + x.size() - 1
	typ, middle := c.infer(ctx, x.kids[0], front)
	c.mustLevel(typ, own)
	typ, _ = c.infer(ctx, x.kids[1], middle)
	c.at(own)
	if !c.same(ctx, typ, x.kids[0]) {
		c.refuse(impl.CodeArg)
	}
	put := c.fits(x.kids[2].put(x.kids[1]))
	before := c.held
	c.held = true
	typ, _ = c.infer(ctx, put, 0)
	c.held = before
	return typ, own + 1
}

// The three ways to ask.
const (
	askInfer = iota
	askCheck
	askCtx
)

// checkAsk is a question of the chapter. Only Check has a want; CheckCtx has no
// term.
type checkAsk struct {
	way     int
	params  []string
	ctx     []impl.Term
	x, want impl.Term
}

// checkAnswer is what is told; typ is that of Infer.
type checkAnswer struct {
	typ   string
	work  int
	code  int
	place int
}

func (a checkAnswer) text() string {
	return fmt.Sprintf("work %d, code %d at %d, %s", a.work, a.code, a.place, short(a.typ))
}

func (q checkAsk) text() string {
	return fmt.Sprintf("%s: %s, %s, %v", []string{"Infer", "Check", "CheckCtx"}[q.way], short(told(q.x)), short(told(q.want)), q.params)
}

func (q checkAsk) ask(e impl.Env, fuel int) checkAnswer {
	var a checkAnswer
	switch q.way {
	case askInfer:
		var typ impl.Term
		typ, a.work, a.code, a.place = impl.Infer(e, q.params, q.ctx, q.x, fuel)
		a.typ = told(typ)
	case askCheck:
		a.work, a.code, a.place = impl.Check(e, q.params, q.ctx, q.x, q.want, fuel)
	case askCtx:
		a.work, a.code, a.place = impl.CheckCtx(e, q.params, q.ctx, fuel)
	}
	return a
}

// slowly gives the answer by the slow way, and the size of the greatest tree
// that was made.
func (q checkAsk) slowly(w *slowSteps, fuel int, exact bool) (checkAnswer, int) {
	c := &slowChecker{params: q.params}
	x, work, code := w.slowly(fuel, func(m *slowMeter) tree {
		c.slowMeter = m
		m.exact = exact
		c.same = m.compareTypes
		return q.walk(c)
	})
	if code == 0 {
		c.place = 0
	}
	return checkAnswer{x.told(), work, code, c.place}, c.most
}

func (q checkAsk) walk(c *slowChecker) tree {
	ctx := treesOf(q.ctx)
	if q.way == askCtx {
		c.held = true
		for i, typ := range ctx {
			c.place = i
			sort, _ := c.infer(ctx[:i], typ, 0)
			c.mustLevel(sort, 0)
		}
		return tree{}
	}
	typ, _ := c.infer(ctx, treeOf(q.x), 0)
	if q.way == askInfer {
		return typ
	}
	c.place = len(q.x.Nodes) - 1
	if !c.same(ctx, typ, treeOf(q.want)) {
		c.refuse(impl.CodeArg)
	}
	return tree{}
}

// hold fails unless a question has this answer.
func (q checkAsk) hold(t *testing.T, e impl.Env, fuel int, want checkAnswer) {
	t.Helper()
	if got := q.ask(e, fuel); got != want {
		t.Errorf("%s, fuel %d: %s, not %s", q.text(), fuel, got.text(), want.text())
	}
}

// holdSlow holds an answer against the slow way, where that can tell.
func (q checkAsk) holdSlow(t *testing.T, w *slowSteps, fuel int) checkAnswer {
	t.Helper()
	want, _ := q.slowly(w, fuel, false)
	if want.code == slowLost {
		return want
	}
	if got := q.ask(w.e, fuel); got != want {
		t.Fatalf("%s\n%s\n%s\nfuel %d: %s, not %s", q.text(), told(q.x), told(q.want), fuel, got.text(), want.text())
	}
	return want
}

// holdEveryFuel holds an answer, and the slow way's beside it, with every fuel up
// to more than it needs, and with the greatest one: promise 11. Where the fuel
// runs out, the slow way tells the place.
func (q checkAsk) holdEveryFuel(t *testing.T, w *slowSteps, answer checkAnswer) {
	t.Helper()
	for fuel := 0; fuel <= answer.work+2; fuel++ {
		want := answer
		slow, _ := q.slowly(w, fuel, false)
		if fuel < answer.work {
			want = checkAnswer{work: fuel, code: impl.CodeFuel, place: slow.place}
		}
		q.hold(t, w.e, fuel, want)
		if slow != want {
			t.Errorf("%s, fuel %d: by the slow way %s, not %s", q.text(), fuel, slow.text(), want.text())
		}
	}
	q.hold(t, w.e, impl.MaxFuel, answer)
	for _, fuel := range []int{-1, impl.MaxFuel + 1} {
		q.hold(t, w.e, fuel, checkAnswer{code: impl.CodeInput})
	}
}

// inferCase is a term with its type and the work for it, or with a code and its
// position.
type inferCase struct {
	in    string
	out   string
	work  int
	code  int
	place int
}

// checkParams are the names that the levels of the cases may have.
func checkParams() []string {
	return []string{"u", "v", "q"}
}

func holdInferCases(t *testing.T, e impl.Env, ctx []impl.Term, cases []inferCase) {
	t.Helper()
	w, before := slowStepsIn(e), copyTerms(ctx)
	for _, c := range cases {
		q := checkAsk{way: askInfer, params: checkParams(), ctx: ctx, x: read(c.in)}
		q.holdEveryFuel(t, w, checkAnswer{c.out, c.work, c.code, c.place})
		if written(q.x) != c.in || !slices.Equal(q.params, checkParams()) {
			t.Errorf("%s: the term was changed", c.in)
		}
	}
	if !equalLists(ctx, before) {
		t.Errorf("the context was changed")
	}
}
