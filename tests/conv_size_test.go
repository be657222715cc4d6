package tests

import (
	"strconv"
	"testing"

	"loop.example/g00005/impl"
)

// sizeConvEnv has more than convEnv: what grows in types, and definitions whose
// values are great, or grow.
func sizeConvEnv() impl.Env {
	return behind(behind(convEnv(), sizeEnv().Decls[len(typeEnv().Decls):]...),
		impl.Decl{Kind: impl.KindDef, Name: "grown", Type: read("[! n 0 Nat Nat]"), Value: app(constant("some"), sized(12000))},
		declared(impl.KindDef, "dup", "", "[! n 0 Nat Nat]", "[^ n 0 Nat [[#0 #0] #0]]"),
		declared(impl.KindDef, "dup1", "", "[! n 0 Nat Nat]", "[^ n 0 Nat [. Box 0 [[#0 #0] #0]]]"),
		declared(impl.KindDef, "plus", "", "[! n 0 Nat Nat]", "[^ n 0 Nat [[add #0] Nat.zero]]"),
	)
}

// sizedAsk is a question whose terms, or something on the way, grow with the
// padding.
func sizedAsk(way int, a, b string) func(pad int) convAsk {
	first, second := paddedWith(a, 1001), paddedWith(b, 1001)
	return func(pad int) convAsk {
		return convAsk{way, convContext(), first(pad), second(pad)}
	}
}

// convLimit is the greatest padding with which nothing is too great.
func convLimit(w *slowSteps, make func(pad int) convAsk) int {
	most := func(pad int) int {
		_, _, _, most := make(pad).slowly(w, impl.MaxFuel, true)
		return most
	}
	pad := 3001
	size := most(pad)
	grows := (most(pad+2) - size) / 2
	for range 4 {
		by := (impl.MaxNodes - size + 10*grows) / grows
		pad += by - 10
		if size = most(pad); by == 10 {
			break
		}
	}
	return pad
}

// holdConvLimit says whether the greatest number of nodes was met, and one more.
func holdConvLimit(t *testing.T, w *slowSteps, make func(pad int) convAsk) (at, beyond bool) {
	t.Helper()
	last := convLimit(w, make)
	for pad := last - 1; pad <= last+1; pad++ {
		q := make(pad)
		if !impl.TermOk(q.a) || !impl.TermOk(q.b) {
			t.Fatalf("%s with %d: too great itself", q.text(), pad)
		}
		same, work, code, most := q.slowly(w, impl.MaxFuel, true)
		at, beyond = at || most == impl.MaxNodes, beyond || most == impl.MaxNodes+1
		if (code == impl.CodeSize) != (pad > last) {
			t.Errorf("%s with %d: by the slow way code %d, %d nodes", q.text(), pad, code, most)
		}
		q.hold(t, w.e, impl.MaxFuel, same, work, code)
		q.hold(t, w.e, work, same, work, code)
		if work > 0 {
			q.hold(t, w.e, work-1, false, work-1, impl.CodeFuel)
		}
	}
	return at, beyond
}

func TestConvToTheLimitOfNodes(t *testing.T) {
	t.Parallel()
	w := slowStepsIn(sizeConvEnv())
	sigma := "[any{1} [[Sigma{0,1} Nat] [^ n 0 Nat [[Vec{1} Nat] #0]]]]"
	for _, c := range []struct {
		way   int
		pairs [][2]string
	}{
		// applied to the variable of one more TermPi, or of two
		{askConv, [][2]string{{"[[^ z 0 Nat #10] @]", "#9"}}},
		{askConv, [][2]string{{"#9", "[[^ z 0 Nat #10] @]"}}},
		{askConv, [][2]string{{"[[^ z 0 Nat first] @]", "second"}}},
		{askConv, [][2]string{{"first", "[[^ z 0 Nat second] @]"}}},
		{askConv, [][2]string{{"unary", "[[^ z 0 Nat add] @]"}}},
		// projections
		{askConv, [][2]string{{"[[^ z 0 Nat #8] @]", "#7"}}},
		{askConv, [][2]string{{"#7", "[[^ z 0 Nat #8] @]"}}},
		// types of fields: the parameters, and the fields in front
		{askConv, [][2]string{{"[[^ z 0 Nat " + sigma + "] @]", sigma}}},
		{askConv, [][2]string{
			{"[any{1} [[Sigma{0,1} Nat] [^ n 0 Nat [[Vec{1} [[^ z 0 Nat Nat] @]] #0]]]]", "#7"},
			{"[any{1} [[Sigma{0,1} Nat] [^ n 0 Nat [[Vec{1} [. Box 0 [[^ z 0 Nat Nat] @]]] #0]]]]", "#7"},
			{"[any{1} [[Sigma{0,1} Nat] [^ n 0 Nat [[Vec{1} [[^ z 0 Nat Nat] @]] #0]]]]", "[. Box 0 #7]"},
		}},
		// the type behind an argument, and behind the last one
		{askTypes, [][2]string{{"[[drop @] #11]", "[[drop @] #10]"}, {"[[drop1 @] #11]", "[[drop1 @] #10]"}}},
		{askTypes, [][2]string{{"[twice @]", "[twice [[^ z 0 Nat #0] @]]"}, {"[twice1 @]", "[twice1 [[^ z 0 Nat #0] @]]"}}},
		{askTypes, [][2]string{{"[twice [[^ z 0 Nat #0] @]]", "[twice @]"}, {"[twice1 [[^ z 0 Nat #0] @]]", "[twice1 @]"}}},
		{askTypes, [][2]string{{"[[later @] #11]", "[[later @] #10]"}, {"[[later1 @] #11]", "[[later1 @] #10]"}}},
		// the type, which comes first
		{askConv, [][2]string{{"[twice @]", "[twice @]"}, {"[twice1 @]", "#11"}}},
		// steps: of the first, of the second, of the type
		{askTypes, [][2]string{{"[[^ x 0 Nat [#0 #0]] @]", "Nat"}, {"[[^ x 0 Nat [. Box 0 [#0 #0]]] @]", "Nat"}}},
		{askTypes, [][2]string{{"Nat", "[[^ x 0 Nat [#0 #0]] @]"}, {"Nat", "[[^ x 0 Nat [. Box 0 [#0 #0]]] @]"}}},
		{askConv, [][2]string{{"[any{u} [[^ x 0 Nat [[Eq{1} #0] #0]] @]]", "Nat"}, {"[any{u} [[^ x 0 Nat [. Box 0 [[Eq{1} #0] #0]]] @]]", "Nat"}}},
		// steps of definitions, and those behind them
		{askTypes, [][2]string{{"[grown @]", "#11"}}},
		{askTypes, [][2]string{{"#11", "[grown @]"}}},
		{askTypes, [][2]string{{"[dup @]", "#11"}, {"[dup1 @]", "#11"}}},
		{askTypes, [][2]string{{"#11", "[dup @]"}, {"#11", "[dup1 @]"}}},
		{askTypes, [][2]string{{"[dup @]", "[dup [[^ z 0 Nat #0] #11]]"}, {"[dup1 @]", "[dup1 [[^ z 0 Nat #0] #11]]"}}},
		{askTypes, [][2]string{{"[[[[Nat.rec{1} @] #11] #10] [plus two]]", "#11"}}},
	} {
		met := [2]bool{}
		for _, texts := range c.pairs {
			at, beyond := holdConvLimit(t, w, sizedAsk(c.way, texts[0], texts[1]))
			met[0], met[1] = met[0] || at, met[1] || beyond
		}
		if !met[0] || !met[1] {
			t.Errorf("%s: the limit was not met: %v", c.pairs[0], met)
		}
	}
}

// Where nothing is made, nothing is too great.
func TestConvOfGreatTerms(t *testing.T) {
	t.Parallel()
	e, ctx := sizeConvEnv(), convContext()
	great := func(text string) impl.Term {
		x := paddedWith(text, 1)(1)
		return paddedWith(text, 1)(impl.MaxNodes - len(x.Nodes) + 1)
	}
	for _, c := range []struct {
		way        int
		a, b       impl.Term
		same       bool
		work, code int
	}{
		{askConv, great("[[^ z 0 Nat #6] @]"), variable(5), true, 1, 0},
		{askConv, variable(5), great("[[^ z 0 Nat #6] @]"), true, 1, 0},
		{askConv, great("[[^ z 0 Nat #3] @]"), variable(1), true, 1, 0},
		{askConv, great("[[^ z 0 Nat #10] @]"), great("[[^ y 0 Nat #10] @]"), true, 1, 0},
		{askConv, great("[[^ z 0 Nat #10] @]"), variable(9), false, 1, impl.CodeSize},
		{askConv, great("[[^ z 0 Nat #8] @]"), variable(7), false, 1, impl.CodeSize},
		{askConv, great("[[^ z 0 Nat #12] @]"), variable(11), true, 2, 0},
		{askConv, great("[#9 @]"), great("[#8 @]"), false, 1, 0},
		{askTypes, great("[! x 0 Nat @]"), great("[! x 0 @ Nat]"), false, 2, 0},
		{askTypes, great("[#9 @]"), variable(9), false, 1, 0},
		{askTypes, great("[[#9 @] #11]"), great("[[#9 @] #10]"), false, 2, impl.CodeFun},
	} {
		if len(c.a.Nodes) > impl.MaxNodes || len(c.b.Nodes) > impl.MaxNodes {
			t.Fatalf("%d and %d nodes", len(c.a.Nodes), len(c.b.Nodes))
		}
		q := convAsk{c.way, ctx, c.a, c.b}
		q.hold(t, e, impl.MaxFuel, c.same, c.work, c.code)
		q.hold(t, e, c.work, c.same, c.work, c.code)
	}
}

// Levels that would be too great, where types are asked for.
func TestConvToTheLimitOfLevels(t *testing.T) {
	e := convEnv()
	level := func(nodes int) impl.Level { return longLevel(nodes) }
	pairs := func(nodes int) impl.Term {
		return app(constant("any", succ(zero(), 1)), app(constant("Prod", level(nodes), zero()), constant("Nat"), constant("Nat")))
	}
	some := constant("some")
	for _, c := range []struct {
		q          convAsk
		same       bool
		work, code int
	}{
		{convAsk{askConv, nil, universe(level(impl.MaxLevel - 1)), prop()}, false, 1, 0},
		{convAsk{askConv, nil, universe(level(impl.MaxLevel)), prop()}, false, 0, impl.CodeSize},
		{convAsk{askConv, nil, universe(level(impl.MaxLevel)), universe(level(impl.MaxLevel))}, false, 0, impl.CodeSize},
		{convAsk{askTypes, nil, universe(level(impl.MaxLevel)), universe(level(impl.MaxLevel))}, true, 1, 0},
		{convAsk{askConv, nil, pairs(impl.MaxLevel - 3), pairs(1)}, false, 3, 0},
		{convAsk{askConv, nil, pairs(impl.MaxLevel - 2), pairs(1)}, false, 1, impl.CodeSize},
		{convAsk{askConv, nil, pairs(1), pairs(impl.MaxLevel)}, false, 3, 0},
		{convAsk{way: askIrrelevant, a: universe(level(impl.MaxLevel - 1))}, false, 0, 0},
		{convAsk{way: askIrrelevant, a: universe(level(impl.MaxLevel))}, false, 0, impl.CodeSize},
		{convAsk{askTypes, nil, app(constant("sorts", level(impl.MaxLevel-2), zero()), some), app(constant("sorts", level(impl.MaxLevel-2), zero()), constant("two"))}, false, 1, impl.CodeSize},
	} {
		if same, work, code, _ := c.q.slowly(slowStepsIn(e), impl.MaxFuel, true); same != c.same || work != c.work || code != c.code {
			t.Errorf("%s: by the slow way %v, work %d, code %d", c.q.text(), same, work, code)
		}
		c.q.hold(t, e, impl.MaxFuel, c.same, c.work, c.code)
	}
}

// Of several codes the one that is met first comes.
func TestConvWithSeveralCodes(t *testing.T) {
	e, ctx := sizeConvEnv(), convContext()
	large := sized(10001)
	grows := app(lam("x", 0, prop(), app(variable(0), variable(0))), large)
	unfolds := app(constant("dup"), large)
	typ := func(x impl.Term) impl.Term { return app(constant("any", zero()), x) }
	eq := func(a, b impl.Term) impl.Term {
		return app(constant("Eq", zero()), constant("Nat"), a, b)
	}
	for i, c := range []struct {
		way        int
		a, b       impl.Term
		work, code int
	}{
		// the Whnf of a, then that of b
		{askTypes, grows, read(omega), 2, impl.CodeSize},
		{askTypes, read(omega), grows, 500, impl.CodeFuel},
		{askTypes, read("[[^ z 0 Nat #0] two]"), grows, 3, impl.CodeSize},
		// the step of a, then that of b, where both do one
		{askTypes, unfolds, read("[[id{1} Nat] " + omega + "]"), 3, impl.CodeSize},
		{askTypes, read("[[id{1} Nat] " + omega + "]"), unfolds, 500, impl.CodeFuel},
		{askTypes, read("[[first two] two]"), unfolds, 6, impl.CodeSize},
		// the higher one alone
		{askTypes, read("deuce"), unfolds, 5, impl.CodeSize},
		{askTypes, read("four"), unfolds, 7, impl.CodeSize},
		// the type ahead of all, and its Whnf ahead of the terms
		{askConv, hole(0), grows, 0, impl.CodeHole},
		{askConv, typ(hole(0)), grows, 1, impl.CodeHole},
		{askConv, typ(grows), hole(0), 2, impl.CodeSize},
		{askConv, typ(read("[two two]")), grows, 2, impl.CodeFun},
		{askConv, typ(constant("Nat")), grows, 2, impl.CodeSize},
		// arguments in order
		{askTypes, eq(app(hole(0), hole(0)), grows), eq(app(hole(0), prop()), prop()), 3, impl.CodeHole},
		{askTypes, eq(grows, app(hole(0), hole(0))), eq(prop(), app(hole(0), prop())), 4, impl.CodeSize},
		{askTypes, eq(app(hole(0), hole(0)), grows), eq(app(hole(1), prop()), prop()), 3, 0},
		{askTypes, app(hole(0), grows), app(hole(0), prop()), 1, impl.CodeHole},
		{askTypes, app(constant("some"), grows), app(constant("some"), prop()), 1, impl.CodeFun},
		// the types in TermPis in order
		{askTypes, pi("x", 0, grows, app(hole(0), prop())), pi("x", 0, prop(), app(hole(0), hole(1))), 3, impl.CodeSize},
		{askTypes, pi("x", 0, app(hole(0), prop()), grows), pi("x", 0, app(hole(0), hole(1)), prop()), 2, impl.CodeHole},
		{askTypes, pi("x", 0, prop(), grows), pi("x", 0, hole(0), prop()), 2, 0},
		// a projection's kids ahead of the type of the head
		{askTypes, app(proj("Box", 0, app(hole(0), prop())), grows), app(proj("Box", 0, app(hole(0), hole(1))), prop()), 1, impl.CodeHole},
		{askTypes, app(proj("Box", 0, variable(11)), grows), app(proj("Box", 0, variable(11)), prop()), 1, impl.CodeProj},
	} {
		convAsk{c.way, ctx, c.a, c.b}.hold(t, e, 500, false, c.work, c.code)
		if t.Failed() {
			t.Fatalf("case %d", i)
		}
	}
}

// pisByPowers are definitions that put as many TermPis around a type as a power of 2.
func pisByPowers(count int) []impl.Decl {
	list := []impl.Decl{declared(impl.KindDef, "put0", "", "[! X 0 *1 *1]", "[^ X 0 *1 [! n 0 Nat #1]]")}
	for i := 1; i < count; i++ {
		last := "put" + strconv.Itoa(i-1)
		list = append(list, declared(impl.KindDef, "put"+strconv.Itoa(i), "", "[! X 0 *1 *1]", "[^ X 0 *1 ["+last+" ["+last+" #0]]]"))
	}
	return list
}

// A variable whose number is too great when it is lifted for the last TermPi; it
// stands by itself, or in a binder.
func TestConvOfDeepVariables(t *testing.T) {
	t.Parallel()
	e := behind(convEnv(), pisByPowers(14)...)
	ctx := make([]impl.Term, impl.MaxCtx)
	for i := range ctx {
		ctx[i] = constant("Nat")
	}
	const around, greatest = 9980, impl.MaxCtx - 1
	alone := func(n int) impl.Term { return variable(n) }
	inside := func(n int) impl.Term { return let("z", prop(), prop(), variable(n)) }
	for _, count := range []int{impl.MaxNodes - around - greatest, impl.MaxNodes - around - greatest + 1} {
		typ := constant("Nat")
		for i := range 14 {
			if count>>i&1 == 1 {
				typ = app(constant("put"+strconv.Itoa(i)), typ)
			}
		}
		for number := around + greatest - 1; number <= around+greatest+1; number++ {
			for under, term := range []func(n int) impl.Term{alone, inside} {
				if number-under >= around+len(ctx) {
					continue
				}
				eq := func(x impl.Term) impl.Term {
					return telescopeOf(around, constant("Nat"), app(constant("Eq", succ(zero(), 1)), typ, x))
				}
				code := 0
				if number+count > impl.MaxNodes {
					code = impl.CodeSize
				}
				q := convAsk{askTypes, ctx, eq(term(number)), eq(alone(around))}
				for range 2 {
					if same, _, got := q.ask(e, impl.MaxFuel); same || got != code {
						t.Errorf("%d TermPis, variable %d under %d: %v, code %d, not %d", count, number, under, same, got, code)
					}
					q = q.turned()
				}
			}
		}
	}
}
