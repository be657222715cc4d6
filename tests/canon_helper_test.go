package tests

import (
	"testing"

	"loop.example/g00005/impl"
)

// canonAt makes a tree canonical at a type, with the words of the document.
func (w *slowMeter) canonAt(ctx []tree, x, typ tree) tree {
	w.count()
	typ = w.whnf(typ, true)
	switch {
	case typ.node.K == impl.TermPi:
		a := w.canonType(ctx, typ.kids[0])
		b := w.canonAt(underOne(ctx, typ.kids[0]), w.applied(x), typ.kids[1])
		return w.fits(tree{impl.Node{K: impl.TermLam, S: "x"}, []tree{a, b}})
	case typ.node.K == impl.TermSort:
		return w.canonType(ctx, x)
	case w.irrelevant(ctx, typ):
		return treeOf(hole(0))
	}
	d, ok := w.structure(typ)
	if !ok {
		return w.canonSpine(ctx, w.whnf(x, true))
	}
	head, args := typ.spine()
	y := w.canonSpine(ctx, apply(treeOf(constant(d.Ctors[0].Name, head.node.Levels...)), args))
	for i := range slowFields(d, 0) {
		field := w.fits(tree{impl.Node{K: impl.TermProj, S: d.Name, N: i}, []tree{x}})
		y = w.fits(apply(y, []tree{w.canonAt(ctx, field, w.fieldType(typ, i, x))}))
	}
	return y
}

func (w *slowMeter) canonType(ctx []tree, x tree) tree {
	w.count()
	x = w.whnf(x, true)
	switch x.node.K {
	case impl.TermSort:
		return x
	case impl.TermPi:
		a := w.canonType(ctx, x.kids[0])
		b := w.canonType(underOne(ctx, x.kids[0]), x.kids[1])
		return w.fits(tree{impl.Node{K: impl.TermPi, S: "x"}, []tree{a, b}})
	}
	return w.canonSpine(ctx, x)
}

func (w *slowMeter) canonSpine(ctx []tree, x tree) tree {
	head, args := x.spine()
	y := head
	if head.node.K == impl.TermProj {
		y = w.fits(tree{head.node, []tree{w.canonSpine(ctx, head.kids[0])}})
	}
	if len(args) == 0 {
		return y
	}
	typ := w.typeOf(ctx, head)
	for _, arg := range args {
		if typ = w.whnf(typ, true); typ.node.K != impl.TermPi {
			panic(slowEnd{impl.CodeFun})
		}
		y = w.fits(apply(y, []tree{w.canonAt(ctx, arg, typ.kids[0])}))
		typ = w.fits(typ.kids[1].put(arg))
	}
	return y
}

// The two ways to ask.
const (
	askCanon = iota
	askCanonType
)

// canonAsk is a question of the chapter.
type canonAsk struct {
	way int
	ctx []impl.Term
	x   impl.Term
}

func (q canonAsk) text() string {
	return []string{"Canon", "CanonType"}[q.way] + ": " + short(told(q.x))
}

func (q canonAsk) ask(e impl.Env, fuel int) (impl.Term, int, int) {
	if q.way == askCanon {
		return impl.Canon(e, q.ctx, q.x, fuel)
	}
	return impl.CanonType(e, q.ctx, q.x, fuel)
}

// slowly gives the answer by the slow way, and the size of the greatest tree that
// was made.
func (q canonAsk) slowly(w *slowSteps, fuel int, exact bool) (x tree, work, code, most int) {
	x, work, code = w.slowly(fuel, func(m *slowMeter) tree {
		defer func() { most = m.most }()
		m.exact = exact
		ctx, x := treesOf(q.ctx), treeOf(q.x)
		if q.way == askCanon {
			return m.canonAt(ctx, x, m.typeOf(ctx, x))
		}
		return m.canonType(ctx, x)
	})
	return x, work, code, most
}

// hold fails unless a question has this answer.
func (q canonAsk) hold(t *testing.T, e impl.Env, fuel int, want string, work, code int) {
	t.Helper()
	got, gotWork, gotCode := q.ask(e, fuel)
	holdWork(t, q.text(), got, gotWork, gotCode, want, work, code)
}

// holdSlow holds an answer against the slow way, where that can tell.
func (q canonAsk) holdSlow(t *testing.T, w *slowSteps, fuel int) int {
	t.Helper()
	y, work, code, _ := q.slowly(w, fuel, false)
	if code != slowLost {
		got, gotWork, gotCode := q.ask(w.e, fuel)
		holdSlow(t, q.text(), got, gotWork, gotCode, y, work, code)
	}
	return code
}

// holdCanonCases holds forms, or codes, with the work for them.
func holdCanonCases(t *testing.T, way int, e impl.Env, ctx []impl.Term, cases []typeCase) {
	t.Helper()
	w, before := slowStepsIn(e), copyTerms(ctx)
	for _, c := range cases {
		holdTypeCase(t, c, func(x impl.Term, fuel int) (impl.Term, int, int) {
			return canonAsk{way, ctx, x}.ask(e, fuel)
		}, func(x impl.Term, fuel int) (tree, int, int) {
			y, work, code, _ := canonAsk{way, ctx, x}.slowly(w, fuel, false)
			return y, work, code
		})
	}
	if !equalLists(ctx, before) {
		t.Errorf("the context was changed")
	}
}

// canonEnv has more than convEnv: a proposition with one constructor, a structure
// of a type, a function and a proof, and axioms that give pairs and take proofs.
func canonEnv() impl.Env {
	return behind(convEnv(),
		family("And", "", 2, "[! a 0 *0 [! b 0 *0 *0]]", "And.intro", "[! a 0 *0 [! b 0 *0 [! l 0 #1 [! r 0 #1 [[And #3] #2]]]]]"),
		family("Some", "", 0, "*2", "Some.mk", "[! A 0 *1 [! a 0 #0 [! f 0 [! x 0 #1 #2] [! h 0 [[[Eq{1} #2] [#0 #1]] #1] Some]]]]"),
		declared(impl.KindAxiom, "pairs", "", "[! n 0 Nat [[Prod{0,0} Nat] Nat]]", ""),
		declared(impl.KindAxiom, "proved", "", "[! n 0 Nat [! h 0 [[[Eq{1} Nat] #0] #0] [! m 0 Nat Nat]]]", ""),
	)
}
