package tests

import (
	"slices"
	"testing"

	"loop.example/g00005/impl"
)

// typeEnv has more than stepEnv: constants whose types become others by steps,
// and structures of all kinds.
func typeEnv() impl.Env {
	return behind(stepEnv(),
		declared(impl.KindDef, "Fun", "", "*1", "[! n 2 Nat Nat]"),
		declared(impl.KindAxiom, "fun", "", "Fun", ""),
		declared(impl.KindAxiom, "slow", "", "[[id{2} *1] Fun]", ""),
		declared(impl.KindAxiom, "more", "", "[! n 0 Nat Fun]", ""),
		declared(impl.KindDef, "pow", "", "[! n 0 Nat *1]", "[[[Nat.rec{2} [^ t 0 Nat *1]] Nat] [^ n 0 Nat [^ ih 0 *1 [! x 0 Nat #1]]]]"),
		declared(impl.KindAxiom, "nary", "", "[! n 0 Nat [pow #0]]", ""),
		declared(impl.KindAxiom, "ever", "", omega, ""),
		declared(impl.KindDef, "Set", "", "*2", "*1"),
		declared(impl.KindAxiom, "set", "", "Set", ""),
		declared(impl.KindDef, "Fam", "", "*2", "[! n 0 Nat Set]"),
		declared(impl.KindAxiom, "fam", "", "Fam", ""),
		declared(impl.KindAxiom, "prf", "", "[[id{1} *0] [[[Eq{1} Nat] two] two]]", ""),
		declared(impl.KindAxiom, "statement", "", "[[id{1} *1] *0]", ""),
		declared(impl.KindDef, "Pair", "", "*1", "[[Prod{0,0} Nat] Unit]"),
		declared(impl.KindAxiom, "pair", "", "Pair", ""),
		declared(impl.KindAxiom, "few", "", "[Prod{0,0} Nat]", ""),
		declared(impl.KindAxiom, "much", "", "[[[Prod{0,0} Nat] Nat] Nat]", ""),
		declared(impl.KindAxiom, "odd", "", "[! Prod 0 Nat Nat]", ""),
		family("Two", "", 0, "*1", "Two.mk", "[! a 0 Nat [! b 0 [[[Eq{1} Nat] #0] two] Two]]"),
		declared(impl.KindAxiom, "stuck", "", "[. Two 0 some]", ""),
		family("All", "u v", 3, "[! A 0 *u [! n 0 Nat [! B 1 [! x 0 #1 *v] *max(u,v)+1]]]",
			"All.mk", "[! A 0 *u [! n 0 Nat [! B 1 [! x 0 #1 *v] [! a 2 #2"+
				" [! b 0 [! x 0 #3 [! y 0 Nat [#3 #2]]] [! c 0 [[[Eq{v} [#2 #1]] [[#0 #1] #3]] [[#0 #1] two]] [! d 0 *max(u,v) [[[All{u,v} #6] #5] #4]]]]]]]]"),
	)
}

// typeOf finds types with the words of the document. What a call puts behind the
// context, nobody looks at any more when the next one does.
func (w *slowMeter) typeOf(ctx []tree, x tree) tree {
	switch x.node.K {
	case impl.TermVar:
		return w.fits(ctx[len(ctx)-1-x.node.N].lifted(0, x.node.N+1))
	case impl.TermSort:
		return w.universe(succ(x.node.Levels[0], 1))
	case impl.TermConst:
		info := w.table[x.node.S]
		typ, code := impl.PutParams(info.Type, info.Params, x.node.Levels)
		if code != 0 {
			panic(slowEnd{code})
		}
		return treeOf(typ)
	case impl.TermApp:
		f := w.typeOf(ctx, x.kids[0])
		if f.node.K != impl.TermPi {
			f = w.whnf(f, true)
		}
		if f.node.K != impl.TermPi {
			panic(slowEnd{impl.CodeFun})
		}
		return w.fits(f.kids[1].put(x.kids[1]))
	case impl.TermLam:
		body := w.typeOf(append(ctx, x.kids[0]), x.kids[1])
		return w.fits(tree{impl.Node{K: impl.TermPi, S: x.node.S, M: x.node.M}, []tree{x.kids[0], body}})
	case impl.TermPi:
		a := w.sortOf(ctx, x.kids[0])
		return w.universe(pair(impl.LevelImax, a, w.sortOf(append(ctx, x.kids[0]), x.kids[1])))
	case impl.TermLet:
		return w.typeOf(ctx, w.fits(x.kids[2].put(x.kids[1])))
	case impl.TermProj:
		typ := w.whnf(w.typeOf(ctx, x.kids[0]), true)
		if head, _ := typ.spine(); head.node.K != impl.TermConst || head.node.S != x.node.S {
			panic(slowEnd{impl.CodeProj})
		}
		return w.fieldType(typ, x.node.N, x.kids[0])
	}
	if w.holeType != nil {
		return w.holeType(x.node.N)
	}
	panic(slowEnd{impl.CodeHole})
}

func (w *slowMeter) universe(l impl.Level) tree {
	if !impl.LevelOk(l) {
		panic(slowEnd{impl.CodeSize})
	}
	return treeOf(universe(l))
}

func (w *slowMeter) sortOf(ctx []tree, x tree) impl.Level {
	typ := w.whnf(w.typeOf(ctx, x), true)
	if typ.node.K != impl.TermSort {
		panic(slowEnd{impl.CodeSort})
	}
	return typ.node.Levels[0]
}

// fieldType is for terms that are known.
func (w *slowMeter) fieldType(s tree, n int, t tree) tree {
	head, terms := s.spine()
	info := w.table[head.node.S]
	if head.node.K != impl.TermConst || info.Kind != impl.InfoFamily || !impl.IsStructure(w.decl(head.node.S)) {
		panic(slowEnd{impl.CodeProj})
	}
	d := w.decl(head.node.S)
	types, _ := piTypes(treeOf(d.Ctors[0].Type))
	if len(terms) != d.Fixed || n < 0 || d.Fixed+n >= len(types) {
		panic(slowEnd{impl.CodeProj})
	}
	typ, code := impl.PutParams(types[d.Fixed+n].term(), d.Params, head.node.Levels)
	if code != 0 {
		panic(slowEnd{code})
	}
	for i := range n {
		terms = append(terms, w.fits(tree{impl.Node{K: impl.TermProj, S: d.Name, N: i}, []tree{t}}))
	}
	x := treeOf(typ)
	for i, term := range slices.Backward(terms) {
		x = x.put(term.lifted(0, i))
	}
	return w.fits(x)
}

func treesOf(terms []impl.Term) []tree {
	var list []tree
	for _, t := range terms {
		list = append(list, treeOf(t))
	}
	return list
}

// slowType gives what TypeOf is to give.
func (w *slowSteps) slowType(ctx []impl.Term, x impl.Term, fuel int, exact bool) (tree, int, int) {
	return w.slowly(fuel, func(m *slowMeter) tree {
		m.exact = exact
		return m.typeOf(treesOf(ctx), treeOf(x))
	})
}

// slowSort gives the TermSort of the level that SortOf is to give.
func (w *slowSteps) slowSort(ctx []impl.Term, x impl.Term, fuel int, exact bool) (tree, int, int) {
	return w.slowly(fuel, func(m *slowMeter) tree {
		m.exact = exact
		return treeOf(universe(m.sortOf(treesOf(ctx), treeOf(x))))
	})
}

// sortTerm is the TermSort of what SortOf gives, so that it can be held like a
// type.
func sortTerm(e impl.Env, ctx []impl.Term, x impl.Term, fuel int) (impl.Term, int, int) {
	level, work, code := impl.SortOf(e, ctx, x, fuel)
	if len(level.Nodes) == 0 {
		return impl.Term{}, work, code
	}
	return universe(level), work, code
}

// contextOf reads the types of a context, from the outermost one on.
func contextOf(texts ...string) []impl.Term {
	var ctx []impl.Term
	for _, text := range texts {
		ctx = append(ctx, read(text))
	}
	return ctx
}

// plainContext has types that hang on each other: A, P, a, h, p and s are the
// variables 5 to 0.
func plainContext() []impl.Term {
	return contextOf("*q+1", "[! x 1 #0 *0]", "#1", "[#1 #0]", "[[Prod{q,0} #3] Nat]", "[[Sigma{q,1} #4] [^ x 0 #4 [! y 0 #5 *1]]]")
}

func copyTerms(terms []impl.Term) []impl.Term {
	var list []impl.Term
	for _, t := range terms {
		list = append(list, copyTerm(t))
	}
	return list
}

// typeCase is a term with its type, or the code, and the work for it.
type typeCase struct {
	in   string
	out  string
	work int
	code int
}

// holdTypeCase holds a function, and the slow way beside it, with every fuel up
// to more than it needs, and with the greatest one: promise 11.
func holdTypeCase(
	t *testing.T,
	c typeCase,
	do func(x impl.Term, fuel int) (impl.Term, int, int),
	slow func(x impl.Term, fuel int) (tree, int, int),
) {
	t.Helper()
	x := read(c.in)
	for fuel := 0; fuel <= c.work+2; fuel++ {
		want, work, code := c.out, c.work, c.code
		if fuel < c.work {
			want, work, code = "", fuel, impl.CodeFuel
		}
		got, gotWork, gotCode := do(x, fuel)
		holdWork(t, c.in, got, gotWork, gotCode, want, work, code)
		y, slowWork, slowCode := slow(x, fuel)
		if text := y.told(); text != want || slowWork != work || slowCode != code {
			t.Errorf("%s: by the slow way work %d, code %d\n%s", c.in, slowWork, slowCode, text)
		}
	}
	got, work, code := do(x, impl.MaxFuel)
	holdWork(t, c.in, got, work, code, c.out, c.work, c.code)
	for _, fuel := range []int{-1, impl.MaxFuel + 1} {
		got, work, code = do(x, fuel)
		holdWork(t, c.in, got, work, code, "", 0, impl.CodeInput)
	}
	if written(x) != c.in {
		t.Errorf("%s was changed", c.in)
	}
}

// told is the text of what the slow way gives, which may be nothing.
func (x tree) told() string {
	if x.node.K == 0 {
		return ""
	}
	return x.text()
}

func holdTypesOf(t *testing.T, e impl.Env, ctx []impl.Term, cases []typeCase) {
	t.Helper()
	w, before := slowStepsIn(e), copyTerms(ctx)
	for _, c := range cases {
		holdTypeCase(t, c, func(x impl.Term, fuel int) (impl.Term, int, int) {
			return impl.TypeOf(e, ctx, x, fuel)
		}, func(x impl.Term, fuel int) (tree, int, int) {
			return w.slowType(ctx, x, fuel, false)
		})
	}
	if !equalLists(ctx, before) {
		t.Errorf("the context was changed")
	}
}

func holdSortsOf(t *testing.T, e impl.Env, ctx []impl.Term, cases []typeCase) {
	t.Helper()
	w, before := slowStepsIn(e), copyTerms(ctx)
	for _, c := range cases {
		holdTypeCase(t, c, func(x impl.Term, fuel int) (impl.Term, int, int) {
			return sortTerm(e, ctx, x, fuel)
		}, func(x impl.Term, fuel int) (tree, int, int) {
			return w.slowSort(ctx, x, fuel, false)
		})
	}
	if !equalLists(ctx, before) {
		t.Errorf("the context was changed")
	}
}
