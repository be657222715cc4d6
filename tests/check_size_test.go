package tests

import (
	"strings"
	"testing"

	"loop.example/g00005/impl"
)

// evenly has one more number around each @, which makes the nodes 9 more.
const evenly = "[. Prod 0 [[[[Prod.mk{0,0} Nat] Nat] @] two]]"

// paddedTyped has a number of so many nodes, 11 at least, at each @, and one of a
// thousand at each $. It has a type.
func paddedTyped(text string) func(pad int) impl.Term {
	return func(pad int) impl.Term {
		if pad%2 == 1 {
			return paddedWith(text, 1001)(pad)
		}
		return paddedWith(strings.ReplaceAll(text, "@", evenly), 1001)(pad - 9)
	}
}

// typedSized is a number of so many nodes.
func typedSized(nodes int) impl.Term {
	return paddedTyped("@")(nodes)
}

// checkSizeEnv has more than sizeConvEnv: functions that take terms of types that
// grow.
func checkSizeEnv() impl.Env {
	return behind(sizeConvEnv(),
		declared(impl.KindAxiom, "need", "", "[! n 0 Nat [! h 0 [[^ x 0 Nat [[[Eq{1} Nat] #0] #0]] #0] Nat]]", ""),
		declared(impl.KindAxiom, "need1", "", "[! n 0 Nat [! h 0 [[^ x 0 Nat [. Box 0 [[[Eq{1} Nat] #0] #0]]] #0] Nat]]", ""),
		declared(impl.KindAxiom, "grows", "", "[! n 0 Nat [[^ x 0 Nat [! h 0 [[[Eq{1} Nat] #0] #0] *1]] #0]]", ""),
		declared(impl.KindAxiom, "grows1", "", "[! n 0 Nat [[^ x 0 Nat [! h 0 [[[Eq{1} Nat] #0] #0] [. Box 0 *1]]] #0]]", ""),
		declared(impl.KindAxiom, "Big", "", "[! n 0 Nat *1]", ""),
	)
}

// checkLimit is the greatest padding with which nothing is too great.
func checkLimit(w *slowSteps, make func(pad int) checkAsk) int {
	most := func(pad int) int {
		_, most := make(pad).slowly(w, impl.MaxFuel, true)
		return most
	}
	pad := 3001
	size := most(pad)
	grows := (most(pad+2) - size) / 2
	for range 4 {
		by := (impl.MaxNodes - size + 10*grows) / grows
		pad += by - 10
		if size = most(pad); by == 10 {
			break
		}
	}
	return pad
}

// holdCheckLimit says whether the greatest number of nodes was met, and one more.
func holdCheckLimit(t *testing.T, w *slowSteps, make func(pad int) checkAsk) (at, beyond bool) {
	t.Helper()
	last := checkLimit(w, make)
	for pad := last - 1; pad <= last+1; pad++ {
		q := make(pad)
		if !impl.TermOk(q.x) {
			t.Fatalf("%s with %d: too great itself", q.text(), pad)
		}
		want, most := q.slowly(w, impl.MaxFuel, true)
		at, beyond = at || most == impl.MaxNodes, beyond || most == impl.MaxNodes+1
		if (want.code == impl.CodeSize) != (pad > last) {
			t.Errorf("%s with %d: by the slow way %s, %d nodes", q.text(), pad, want.text(), most)
		}
		q.hold(t, w.e, impl.MaxFuel, want)
		q.hold(t, w.e, want.work, want)
		if got := q.ask(w.e, want.work-1); want.work > 0 && (got.code != impl.CodeFuel || got.work != want.work-1) {
			t.Errorf("%s with %d: %s", q.text(), pad, got.text())
		}
	}
	return at, beyond
}

func TestCheckingToTheLimitOfNodes(t *testing.T) {
	t.Parallel()
	w := slowStepsIn(checkSizeEnv())
	for _, texts := range [][]string{
		// of an argument, in the type at once and on the way only
		{"[twice @]", "[twice1 @]"},
		{"[^ x 0 Nat [[add two] [twice [[add @] #0]]]]", "[^ x 0 Nat [[add two] [twice1 [[add @] #0]]]]"},
		{"[[drop @] ?0]", "[[drop1 @] ?0]"},
		// of a TermLam
		{"[^ x 0 [Big @] #0]", "[^ x 0 [Big $] [^ y 0 [Big @] #1]]", "[^ x 0 [Big $] [^ y 0 [Big @] #0]]"},
		// of a TermLet
		{"[= x Nat @ [[add #0] #0]]", "[= x Nat @ [[add [[add #0] #0]] [. Prod 0 #8]]]"},
		{"[= x Nat @ [= y Nat $ [[add #1] [[add #0] #1]]]]", "[= x Nat @ [= y Nat $ [[add [[add [. Prod 0 #9]] #1]] [[add #0] #1]]]]"},
		{"[= x Nat $ [= y Nat @ [[add #1] [[add #0] #0]]]]", "[= x Nat $ [= y Nat @ [[add [[add #1] [. Prod 1 #9]]] [[add #0] #0]]]]"},
		{"[Nat.succ [= x Nat @ [^ y 0 Nat [[add #1] [[add #1] #0]]]]]", "[Nat.succ [= x Nat @ [^ y 0 Nat [[add #1] [[add #1] [. Prod 0 #9]]]]]]"},
		// of a TermProj
		{"[. Sigma 1 [dep @]]", "[. Sigma 1 [dep1 @]]"},
		// steps of the function's type
		{"[[later @] two]", "[[later1 @] two]"},
		{"[[grows @] two]", "[[grows1 @] two]"},
		// steps while types are compared
		{"[[need @] two]", "[[need1 @] two]"},
	} {
		met := [2]bool{}
		for _, text := range texts {
			fill := paddedTyped(text)
			at, beyond := holdCheckLimit(t, w, func(pad int) checkAsk {
				return checkAsk{way: askInfer, params: checkParams(), ctx: convContext(), x: fill(pad)}
			})
			met[0], met[1] = met[0] || at, met[1] || beyond
		}
		if !met[0] || !met[1] {
			t.Errorf("%s: the limit was not met: %v", texts[0], met)
		}
	}
}

// Where nothing great is made, a term may have as many nodes as any.
func TestInferGreatTerms(t *testing.T) {
	e, ctx := checkSizeEnv(), convContext()
	for _, c := range []struct {
		text string
		want checkAnswer
	}{
		// a comparison for each Nat.succ, and 4 for what makes the number even
		{"@", checkAnswer{typ: "Nat", work: 9995 + 4}},
		{"[[^ z 0 Nat #10] @]", checkAnswer{typ: "[! n 0 Nat Nat]", work: 9993 + 4 + 1}},
		{"[#5 @]", checkAnswer{work: 9994 + 4, code: impl.CodeFun, place: impl.MaxNodes - 1}},
		{"[#3 @]", checkAnswer{typ: "*0", work: 9994 + 4 + 1}},
	} {
		fill := paddedTyped(c.text)
		x := fill(impl.MaxNodes - len(fill(1001).Nodes) + 1001)
		if len(x.Nodes) != impl.MaxNodes {
			t.Fatalf("%s: %d nodes", c.text, len(x.Nodes))
		}
		q := checkAsk{way: askInfer, ctx: ctx, x: x}
		q.hold(t, e, impl.MaxFuel, c.want)
		q.hold(t, e, c.want.work, c.want)
		q.x.Nodes = append(q.x.Nodes, impl.Node{K: impl.TermProj, S: "Box", Kids: []int{len(x.Nodes) - 1}})
		q.holdRefused(t, c.text, e)
	}
}

// Levels that would be too great, in the types of TermSorts, constants and
// TermPis.
func TestCheckingToTheLimitOfLevels(t *testing.T) {
	e := convEnv()
	w := slowStepsIn(e)
	most := longLevel(impl.MaxLevel)
	ctx := []impl.Term{
		universe(longLevel(31)), universe(longLevel(32)), universe(longLevel(33)), universe(most),
		read("*max(a,max(b,c))"), read("*max(d,max(e,f))"), read("*g"),
	}
	v := func(i int) impl.Term { return variable(len(ctx) - 1 - i) }
	arrow := func(i, k int) impl.Term { return pi("x", 0, v(i), variable(len(ctx)-k)) }
	other := succ(param("w"), impl.MaxLevel-1)
	for i, c := range []struct {
		x           impl.Term
		code, place int
	}{
		{universe(longLevel(impl.MaxLevel - 1)), 0, 0},
		{universe(most), impl.CodeSize, 0},
		// a name that is not among params comes first
		{universe(other), impl.CodeLevel, 0},
		{constant("sorts", other, zero()), impl.CodeLevel, 0},
		{constant("sorts", most, param("w")), impl.CodeLevel, 0},
		{constant("sorts", longLevel(impl.MaxLevel-3), zero()), 0, 0},
		{constant("sorts", longLevel(impl.MaxLevel-2), zero()), impl.CodeSize, 0},
		{constant("id", most), 0, 0},
		{app(constant("id", longLevel(impl.MaxLevel)), universe(longLevel(impl.MaxLevel-1))), 0, 0},
		{app(constant("id", zero()), universe(most)), impl.CodeSize, 1},
		{lam("x", 0, prop(), universe(most)), impl.CodeSize, 1},
		{lam("x", 0, universe(most), prop()), impl.CodeSize, 0},
		{let("x", prop(), universe(most), hole(0)), impl.CodeSize, 1},
		{let("x", universe(succ(zero(), 1)), prop(), universe(most)), impl.CodeSize, 3},
		{arrow(0, 1), 0, 0},
		{arrow(1, 0), 0, 0},
		{arrow(1, 1), impl.CodeSize, 2},
		{arrow(0, 2), impl.CodeSize, 2},
		{arrow(2, 0), impl.CodeSize, 2},
		{arrow(3, 4), impl.CodeSize, 2},
		{arrow(4, 5), 0, 0},
		{pi("y", 0, arrow(4, 5), variable(len(ctx)-6)), impl.CodeSize, 4},
		{pi("y", 0, v(6), pi("z", 0, variable(len(ctx)-4), variable(len(ctx)+1-5))), impl.CodeSize, 4},
		{lam("y", 0, arrow(1, 1), hole(0)), impl.CodeSize, 2},
		{app(hole(0), arrow(1, 1)), impl.CodeHole, 0},
		{app(constant("two"), arrow(1, 1)), impl.CodeSize, 3},
		// a B that is no type comes ahead of the level
		{pi("x", 0, v(3), constant("two")), impl.CodeSort, 2},
		{pi("x", 0, v(3), variable(0)), impl.CodeSort, 2},
	} {
		q := checkAsk{way: askInfer, params: []string{"u"}, ctx: ctx, x: c.x}
		want, _ := q.slowly(w, impl.MaxFuel, true)
		if want.code != c.code || want.place != c.place {
			t.Errorf("case %d: by the slow way %s", i, want.text())
		}
		q.hold(t, e, impl.MaxFuel, want)
	}
	// in a context
	q := checkAsk{way: askCtx, params: []string{"u"}, ctx: ctx[:3]}
	q.hold(t, e, 0, checkAnswer{})
	q.ctx = ctx[:4]
	q.hold(t, e, 0, checkAnswer{code: impl.CodeSize, place: 3})
	q.params = nil
	q.hold(t, e, 0, checkAnswer{code: impl.CodeLevel, place: 0})
}

// Of several codes the one that is met first comes.
func TestCheckingWithSeveralCodes(t *testing.T) {
	t.Parallel()
	e, ctx := checkSizeEnv(), convContext()
	large := typedSized(10001)
	unit := app(lam("z", 0, constant("Nat"), constant("Unit.star")), large)
	twice := app(constant("twice"), large)
	both := app(constant("add"), variable(0), variable(0))
	// the comparisons in large
	const inside = 5000
	for i, c := range []struct {
		x                 impl.Term
		work, code, place int
	}{
		{twice, inside + 1, impl.CodeSize, 10002},
		{app(twice, hole(0)), inside + 1, impl.CodeSize, 10002},
		{app(constant("add"), hole(0), twice), 0, impl.CodeHole, 1},
		{app(constant("add"), constant("two"), twice), 1 + inside + 1, impl.CodeSize, 10005},
		// of the argument: that it is one, then that of what is made
		{app(constant("twice"), unit), inside + 2, impl.CodeArg, 10006},
		{app(constant("two"), twice), inside + 1, impl.CodeSize, 10003},
		// a TermLet's A, v, the comparison, the Put, and what is within
		{let("x", constant("two"), large, both), 0, impl.CodeSort, 10005 + 2},
		{let("x", constant("Unit"), large, both), inside + 1, impl.CodeArg, 10005 + 2},
		{let("x", constant("Nat"), large, both), inside + 1, impl.CodeSize, 10005 + 2},
		{let("x", constant("Nat"), large, app(hole(0), both)), inside + 1, impl.CodeSize, 10005 + 4},
		{let("x", constant("Nat"), large, app(hole(0), variable(0))), inside + 1, impl.CodeHole, 10005},
		{let("x", constant("Nat"), large, app(constant("twice"), variable(0))), inside + 1 + inside + 1, impl.CodeSize, 10005},
		{let("x", constant("Nat"), twice, hole(0)), inside + 1, impl.CodeSize, 10003},
		// a TermLam's b, and then what is made of both
		{lam("x", 0, app(constant("Big"), large), lam("y", 0, app(constant("Big"), variable(0)), hole(0))), inside + 2, impl.CodeArg, 10003 + 2},
		{lam("x", 0, app(constant("Big"), large), hole(0)), inside + 1, impl.CodeHole, 10003},
		{lam("x", 0, app(constant("Big"), large), variable(0)), inside + 1, impl.CodeSize, 10004},
		{lam("x", 0, constant("Nat"), lam("x", 0, app(constant("Big"), large), variable(0))), inside + 1, impl.CodeSize, 10005},
		// steps of the function's type, then the comparison
		{app(constant("grows"), large, variable(11)), inside + 1 + 1, impl.CodeSize, 10004},
		{app(constant("grows"), large, hole(0)), inside + 1, impl.CodeHole, 10003},
		{app(constant("need"), large, variable(11)), inside + 1 + 2, impl.CodeSize, 10004},
	} {
		q := checkAsk{way: askInfer, params: checkParams(), ctx: ctx, x: c.x}
		q.hold(t, e, impl.MaxFuel, checkAnswer{"", c.work, c.code, c.place})
		q.hold(t, e, c.work, checkAnswer{"", c.work, c.code, c.place})
		if t.Failed() {
			t.Fatalf("case %d", i)
		}
	}
	// in the last comparison of Check
	q := checkAsk{askCheck, nil, ctx, variable(11), app(lam("x", 0, constant("Nat"), app(constant("Eq", zero()), variable(0), variable(0))), large)}
	q.hold(t, e, impl.MaxFuel, checkAnswer{"", 2, impl.CodeSize, 0})
	q.x = app(constant("Nat.succ"), variable(11))
	q.hold(t, e, impl.MaxFuel, checkAnswer{"", 3, impl.CodeSize, 2})
	q.x = app(constant("Nat.succ"), hole(0))
	q.hold(t, e, impl.MaxFuel, checkAnswer{"", 0, impl.CodeHole, 1})
	// in a context
	q = checkAsk{way: askCtx, ctx: []impl.Term{constant("Nat"), app(constant("Big"), large), twice, hole(0)}}
	q.hold(t, e, impl.MaxFuel, checkAnswer{"", 2*inside + 2, impl.CodeSize, 2})
}

// A type whose variable has too great a number when it is lifted: it comes from
// the variable that it is the type of.
func TestInferDeepVariables(t *testing.T) {
	e := convEnv()
	nat := constant("Nat")
	const pis = 9990
	ctx := make([]impl.Term, impl.MaxCtx)
	for i := range ctx {
		ctx[i] = nat
	}
	// the outermost variable, seen from within
	ctx[impl.MaxCtx-1] = telescopeOf(pis, nat, variable(pis+impl.MaxCtx-2))
	for number := impl.MaxNodes - 1; number <= impl.MaxNodes+1; number++ {
		depth := number - (pis + impl.MaxCtx - 2) - 1
		x := lams(depth, func(int) impl.Term { return nat }, variable(depth))
		q := checkAsk{way: askInfer, ctx: ctx, x: x}
		// the innermost TermLam whose type has too many nodes, if the number does not come first
		place := depth + (impl.MaxNodes-(2*pis+1))/2 + 1
		if number > impl.MaxNodes {
			place = depth
		}
		q.hold(t, e, 0, checkAnswer{"", 0, impl.CodeSize, place})
		q.x = lams(depth, func(int) impl.Term { return nat }, app(constant("two"), variable(depth)))
		want := checkAnswer{"", 0, impl.CodeFun, depth + 2}
		if number > impl.MaxNodes {
			want = checkAnswer{"", 0, impl.CodeSize, depth + 1}
		}
		q.hold(t, e, 0, want)
	}
}
