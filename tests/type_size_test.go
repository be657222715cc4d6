package tests

import (
	"testing"

	"loop.example/g00005/impl"
)

// sizeEnv has constants in whose types an argument stands several times; those
// with a 1 behind their names have one node more.
func sizeEnv() impl.Env {
	return behind(typeEnv(),
		declared(impl.KindAxiom, "twice", "", "[! n 0 Nat [[Eq{1} #0] #0]]", ""),
		declared(impl.KindAxiom, "twice1", "", "[! n 0 Nat [. Box 0 [[Eq{1} #0] #0]]]", ""),
		declared(impl.KindAxiom, "drop", "", "[! n 0 Nat [! h 0 [[Eq{1} #0] #0] Nat]]", ""),
		declared(impl.KindAxiom, "drop1", "", "[! n 0 Nat [! h 0 [[Eq{1} #0] #0] [. Box 0 Nat]]]", ""),
		declared(impl.KindAxiom, "both", "", "[! n 0 Nat [! m 0 Nat [! h 0 [[#1 #0] #1] [! k 0 [! x 0 #2 [#2 #0]] [! l 0 [#2 #3] #3]]]]]", ""),
		declared(impl.KindAxiom, "both1", "", "[! n 0 Nat [! m 0 [. Box 0 #0] [! h 0 [[#1 #0] #1] [! k 0 [! x 0 #2 [. Box 0 [#2 #0]]] [! l 0 [#2 #3] #3]]]]]", ""),
		declared(impl.KindAxiom, "late", "", "[! n 0 Nat [! m 0 [#0 [#0 #0]] [! k 0 [[#1 #0] #1] [[Eq{1} #0] #0]]]]", ""),
		declared(impl.KindAxiom, "late1", "", "[! n 0 Nat [! m 0 [#0 [#0 #0]] [! k 0 [[#1 #0] #1] [! l 0 [[#2 #1] [#2 #0]] [[. Box 0 #1] #0]]]]]", ""),
		declared(impl.KindAxiom, "later", "", "[! n 0 Nat [[id{2} *1] [! h 0 [[Eq{1} #0] #0] Nat]]]", ""),
		declared(impl.KindAxiom, "later1", "", "[! n 0 Nat [[id{2} *1] [! h 0 [[Eq{1} #0] #0] [. Box 0 Nat]]]]", ""),
		declared(impl.KindAxiom, "dep", "", "[! n 0 Nat [[Sigma{0,0} Nat] [Nat.succ #0]]]", ""),
		declared(impl.KindAxiom, "dep1", "", "[! n 0 Nat [[Sigma{0,0} Nat] [. Box 0 [Nat.succ #0]]]]", ""),
	)
}

// exactType is the slow way's answer at the limits, with the size of the
// greatest tree that was made on the way.
func exactType(w *slowSteps, ctx []impl.Term, x impl.Term) (y tree, work, code, most int) {
	y, work, code = w.slowly(impl.MaxFuel, func(m *slowMeter) tree {
		defer func() { most = m.most }()
		m.exact = true
		return m.typeOf(treesOf(ctx), treeOf(x))
	})
	return y, work, code, most
}

// sizeLimit is the greatest padding with which nothing is too great.
func sizeLimit(w *slowSteps, ctx []impl.Term, make func(pad int) impl.Term) int {
	most := func(pad int) int {
		_, _, _, most := exactType(w, ctx, make(pad))
		return most
	}
	pad := 3001
	size := most(pad)
	grows := (most(pad+2) - size) / 2
	for range 4 {
		by := (impl.MaxNodes - size + 10*grows) / grows
		pad += by - 10
		if size = most(pad); by == 10 {
			break
		}
	}
	return pad
}

// holdTypeLimit is for terms whose type, or something on the way to it, grows
// with the padding. It says whether the greatest number of nodes was met, and
// one more.
func holdTypeLimit(t *testing.T, what string, w *slowSteps, ctx []impl.Term, make func(pad int) impl.Term) (at, beyond bool) {
	t.Helper()
	last := sizeLimit(w, ctx, make)
	for pad := last - 1; pad <= last+1; pad++ {
		x := make(pad)
		if !impl.TermOk(x) {
			t.Fatalf("%s with %d: too great itself", what, pad)
		}
		y, work, code, most := exactType(w, ctx, x)
		at, beyond = at || most == impl.MaxNodes, beyond || most == impl.MaxNodes+1
		if (code == impl.CodeSize) != (pad > last) {
			t.Errorf("%s with %d: by the slow way code %d, %d nodes", what, pad, code, most)
		}
		want := y.told()
		got, gotWork, gotCode := impl.TypeOf(w.e, ctx, x, work)
		holdWork(t, what, got, gotWork, gotCode, want, work, code)
		if work > 0 {
			got, gotWork, gotCode = impl.TypeOf(w.e, ctx, x, work-1)
			holdWork(t, what, got, gotWork, gotCode, "", work-1, impl.CodeFuel)
		}
	}
	return at, beyond
}

func TestTypesToTheLimitOfNodes(t *testing.T) {
	t.Parallel()
	w := slowStepsIn(sizeEnv())
	ctx := plainContext()
	for _, texts := range [][]string{
		// of an argument: at once, on the way only, and with others that wait
		{"[twice @]", "[twice1 @]", "[^ x 0 Nat [twice [@ #0]]]"},
		{"[[drop @] two]", "[[drop1 @] two]", "[[[drop1 @] two] two]",
			"[[both $] @]", "[[both1 $] @]", "[[both @] $]", "[[[[[both1 $] @] #0] #1] two]", "[[[[[both @] $] #0] #1] two]",
			"[[[[both @] @] #0] #3]", "[[[[[both $] @] #0] #1] two]", "[[[[both #0] @] #0] #1]", "[[[[both1 #0] @] #0] #1]", "[[[both @] #0] #1]", "[[[both1 @] #0] #1]"},
		{"[[[late $] #0] @]", "[[[late #0] $] @]", "[[[[late1 $] #0] @] @]", "[[[[late1 #0] $] @] @]", "[[[[late1 [#0 $]] $] @] @]"},
		{"[[later @] two]", "[[later1 @] two]", "[^ x 0 Nat [[later [#0 @]] two]]"},
		{"[[^ x 0 Nat [^ y 0 [#0 #0] #1]] @]", "[[^ x 0 Nat [^ y 0 [. Box 0 [#0 #0]] #1]] @]"},
		{"[[[^ x 0 @ [^ y 0 [#0 #0] #1]] two] two]", "[[^ x 0 @ [^ y 0 #0 #1]] two]", "[[^ x 0 @ [^ y 0 [. Box 0 #0] #1]] two]"},
		// of a TermLam
		{"[^ x 0 @ easy]", "[^ x 0 @ Nat.succ]"},
		{"[^ x 0 @ [^ y 0 #0 #1]]", "[^ x 0 @ #0]", "[^ x 0 @ [^ y 0 [. Box 0 #0] #1]]"},
		// of a TermLet
		{"[= x Nat @ [#0 #0]]", "[= x Nat @ [. Box 0 [#0 #0]]]", "[= x Nat @ [^ y 0 [#0 [#0 #0]] two]]"},
		{"[= x Nat @ [= y Nat [#0 #0] [Nat.succ #0]]]", "[= x Nat @ [= y [. Box 0 Nat] [#0 #0] [Nat.succ #0]]]", "[= x Nat @ [= y #0 #0 two]]"},
		{"[= x Nat @ [= y Nat #0 [= z [#1 #0] two two]]]", "[= x Nat @ [= y Nat #0 [= z [#1 #0] [. Box 0 two] two]]]", "[= x Nat @ [= y [#0 #0] $ [= z Nat [#0 #1] [Nat.succ two]]]]"},
		{"[= x Nat $ [= y Nat @ [= z [#1 #0] [#1 #0] two]]]", "[= x Nat @ [= y Nat $ [= z [#1 #0] [. Box 0 two] [Nat.succ [#2 #0]]]]]", "[= x Nat @ [= y Nat $ [= z [#1 #0] two [Nat.succ [#2 #0]]]]]"},
		// of a TermProj
		{"[. Sigma 1 [dep @]]", "[. Sigma 1 [dep1 @]]"},
	} {
		met := [2]bool{}
		for _, text := range texts {
			at, beyond := holdTypeLimit(t, text, w, ctx, paddedWith(text, 1001))
			met[0], met[1] = met[0] || at, met[1] || beyond
		}
		if !met[0] || !met[1] {
			t.Errorf("%s: the limit was not met: %v", texts[0], met)
		}
	}
}

// Levels that would be too great, in the types of TermSorts, TermPis and
// constants.
func TestTypesToTheLimitOfLevels(t *testing.T) {
	e := typeEnv()
	named := func(names ...string) impl.Level {
		l := zero()
		for _, name := range names {
			l = pair(impl.LevelMax, l, param(name))
		}
		return l
	}
	most := longLevel(impl.MaxLevel)
	ctx := []impl.Term{
		universe(longLevel(31)), universe(longLevel(32)), universe(longLevel(33)), universe(most),
		universe(named("a", "b", "c")), universe(named("d", "e", "f")), universe(named("c", "d", "e", "f")), universe(named("c")),
	}
	v := func(i int) impl.Term { return variable(len(ctx) - 1 - i) }
	arrow := func(i, k int) impl.Term { return pi("x", 0, v(i), variable(len(ctx)-k)) }
	for i, c := range []struct {
		x    impl.Term
		code int
	}{
		{universe(longLevel(impl.MaxLevel - 1)), 0},
		{universe(most), impl.CodeSize},
		{lam("x", 0, prop(), universe(most)), impl.CodeSize},
		{lam("x", 0, universe(most), prop()), 0},
		{lam("x", 0, universe(most), variable(0)), 0},
		{pi("x", 0, universe(most), prop()), impl.CodeSize},
		{arrow(0, 1), 0},
		{arrow(1, 0), 0},
		{arrow(0, 2), impl.CodeSize},
		{arrow(1, 1), impl.CodeSize},
		{arrow(2, 0), impl.CodeSize},
		{arrow(7, 3), impl.CodeSize},
		{arrow(4, 5), 0},
		{arrow(4, 6), 0},
		{arrow(6, 4), 0},
		{pi("y", 0, arrow(4, 5), variable(len(ctx)-7)), 0},
		{pi("y", 0, arrow(4, 5), variable(len(ctx)-0)), impl.CodeSize},
		{constant("id", most), 0},
		{constant("any", most), 0},
		{constant("sorts", longLevel(impl.MaxLevel-3), zero()), 0},
		{constant("sorts", longLevel(impl.MaxLevel-2), zero()), impl.CodeSize},
		{app(constant("sorts", most, zero()), hole(0)), impl.CodeSize},
		{constant("Prod", longLevel(impl.MaxLevel-3), zero()), 0},
		{constant("Prod", most, zero()), impl.CodeSize},
		{constant("Prod", named("a", "b", "c", "d"), named("e", "f")), 0},
		{constant("Prod", named("a", "b", "c", "d"), named("e", "f", "g")), impl.CodeSize},
		{proj("Two", 0, app(constant("Prod", most, zero()), prop())), impl.CodeSize},
	} {
		y, work, code, _ := exactType(slowStepsIn(e), ctx, c.x)
		if code != c.code {
			t.Errorf("case %d: by the slow way code %d", i, code)
		}
		got, gotWork, gotCode := impl.TypeOf(e, ctx, c.x, 0)
		holdWork(t, written(c.x), got, gotWork, gotCode, y.told(), work, c.code)
	}
	got, work, code := sortTerm(e, ctx, v(3), 0)
	holdWork(t, "a great level", got, work, code, written(universe(most)), 0, 0)
	got, work, code = sortTerm(e, ctx, universe(most), 0)
	holdWork(t, "a level that is too great", got, work, code, "", 0, impl.CodeSize)
}

// Of two codes the one that is met first comes, whatever its number.
func TestTypesWithSeveralCodes(t *testing.T) {
	e := sizeEnv()
	most := longLevel(impl.MaxLevel)
	great := universe(most)
	large := sized(10000)
	ctx := []impl.Term{universe(most)}
	for i, c := range []struct {
		x    impl.Term
		code int
	}{
		{pi("x", 0, great, hole(0)), impl.CodeSize},
		{pi("x", 0, hole(0), great), impl.CodeHole},
		{pi("x", 0, great, constant("two")), impl.CodeSize},
		{pi("x", 0, constant("two"), great), impl.CodeSort},
		{pi("x", 0, variable(0), constant("two")), impl.CodeSort},
		{pi("x", 0, variable(0), hole(0)), impl.CodeHole},
		{app(constant("twice"), large, hole(0)), impl.CodeSize},
		{app(hole(0), large), impl.CodeHole},
		{app(great, large), impl.CodeSize},
		{app(constant("some"), large), impl.CodeFun},
		{app(app(constant("drop"), large), constant("two"), constant("two")), impl.CodeSize},
		{let("x", prop(), large, app(hole(0), variable(0), variable(0))), impl.CodeSize},
		{let("x", prop(), large, app(hole(0), variable(0))), impl.CodeHole},
		{lam("x", 0, large, let("y", prop(), large, hole(0))), impl.CodeInput},
		{lam("x", 0, large, app(constant("twice"), hole(0))), 0},
		{lam("x", 0, sized(19990), hole(0)), impl.CodeHole},
		{lam("x", 0, sized(19990), constant("easy")), 0},
		{lam("x", 0, sized(19997), constant("easy")), impl.CodeSize},
		{proj("Prod", 0, great), impl.CodeSize},
		{proj("Prod", 0, hole(0)), impl.CodeHole},
		{proj("Prod", 0, app(constant("twice"), large)), impl.CodeSize},
		{proj("Prod", 0, app(constant("dep"), large)), impl.CodeProj},
		{proj("Sigma", 1, app(constant("dep"), large)), impl.CodeSize},
		{proj("Sigma", 0, app(constant("dep"), large)), 0},
	} {
		_, work, code := impl.TypeOf(e, ctx, c.x, impl.MaxFuel)
		if code != c.code || work != 0 {
			t.Errorf("case %d: work %d, code %d", i, work, code)
		}
	}
	// the fuel ends a step ahead of what it makes
	x := app(constant("later"), large, constant("two"))
	got, work, code := impl.TypeOf(e, nil, x, 0)
	holdWork(t, "later", got, work, code, "", 0, impl.CodeSize)
}

// Types under so many binders that a variable would have a number beyond the
// greatest one. The slow way finds the code, too.
func TestTypesOfDeepVariables(t *testing.T) {
	e := typeEnv()
	const inner = 9990
	deep := telescopeOf(inner, constant("Nat"), variable(inner))
	for _, more := range []int{0, 1} {
		ctx := []impl.Term{constant("Nat"), deep}
		for len(ctx) < impl.MaxCtx {
			ctx = append(ctx, constant("Nat"))
		}
		// under this many binders the variable of the type is the greatest that there may be
		around := impl.MaxNodes - inner - (impl.MaxCtx - 1) + more
		x := telescopeOf(around, constant("Nat"), variable(impl.MaxCtx-2+around))
		want := impl.CodeSort
		if more > 0 {
			want = impl.CodeSize
		}
		_, work, code, _ := exactType(slowStepsIn(e), ctx, x)
		if code != want || work != 0 {
			t.Errorf("%d more: by the slow way work %d, code %d", more, work, code)
		}
		got, work, code := impl.TypeOf(e, ctx, x, 0)
		holdWork(t, "deep", got, work, code, "", 0, want)
	}
	// an argument that is put deep into a type
	e = behind(e, impl.Decl{Kind: impl.KindAxiom, Name: "far", Type: pi("n", 0, constant("Nat"), pi("h", 0, deep, constant("Nat")))})
	ctx := make([]impl.Term, impl.MaxCtx)
	for i := range ctx {
		ctx[i] = constant("Nat")
	}
	for more, want := range []int{impl.CodeSort, impl.CodeSort, impl.CodeSize} {
		around := impl.MaxNodes - inner - impl.MaxCtx + more
		x := telescopeOf(around, constant("Nat"), app(constant("far"), variable(impl.MaxCtx+around-1), constant("two")))
		_, work, code, _ := exactType(slowStepsIn(e), ctx, x)
		if code != want || work != 0 {
			t.Errorf("%d more: by the slow way work %d, code %d", more, work, code)
		}
		got, work, code := impl.TypeOf(e, ctx, x, 0)
		holdWork(t, "far", got, work, code, "", 0, want)
	}
}
