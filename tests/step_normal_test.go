package tests

import (
	"strconv"
	"testing"

	"loop.example/g00005/impl"
)

const three = "[Nat.succ [Nat.succ [Nat.succ Nat.zero]]]"

func TestNormal(t *testing.T) {
	e := stepEnv()
	two := "[Nat.succ [Nat.succ Nat.zero]]"
	four := "[Nat.succ " + three + "]"
	for _, c := range []whnfCase{
		// heads of every kind, with arguments and without
		{"#0", 0, "#0"},
		{"[[#0 two] two]", 2, "[[#0 " + two + "] " + two + "]"},
		{"*max(u,1)", 0, "*max(u,1)"},
		{"[*0 two]", 1, "[*0 " + two + "]"},
		{"?7", 0, "?7"},
		{"[?7 two]", 1, "[?7 " + two + "]"},
		{"some", 0, "some"},
		{"[some two]", 1, "[some " + two + "]"},
		{"easy", 0, "easy"},
		{"[easy two]", 1, "[easy " + two + "]"},
		{"two", 1, two},
		{"[Nat.succ two]", 1, three},
		{"[[[Nat.rec{1} two] two] four]", 15, "[[[Nat.rec{1} " + two + "] " + two + "] " + four + "]"},
		{"[[[[Nat.rec{1} two] two] two] #0]", 3, "[[[[Nat.rec{1} " + two + "] " + two + "] " + two + "] #0]"},
		{"[[[[Nat.rec{1} #0] #1] #2] [#3 two]]", 1, "[[[[Nat.rec{1} #0] #1] #2] [#3 " + two + "]]"},
		{"[[False.rec{1} two] two]", 2, "[[False.rec{1} " + two + "] " + two + "]"},
		{"[[[True.rec #0] #1] [[^ x 0 Nat #0] True.intro]]", 1, "[[[True.rec #0] #1] True.intro]"},
		{"[[[[[Quot.lift{0,0} two] #1] #2] #3] two]", 2, "[[[[[Quot.lift{0,0} " + two + "] #1] #2] #3] " + two + "]"},
		{"[^ x 1 two [#0 two]]", 2, "[^ x 1 " + two + " [#0 " + two + "]]"},
		{"[! x 2 two [#0 two]]", 2, "[! x 2 " + two + " [#0 " + two + "]]"},
		{"[[[! x 2 two #0] two] two]", 3, "[[[! x 2 " + two + " #0] " + two + "] " + two + "]"},
		{"[. Prod 1 [#0 two]]", 1, "[. Prod 1 [#0 " + two + "]]"},
		{"[[[. Prod 1 [#0 two]] two] #1]", 2, "[[[. Prod 1 [#0 " + two + "]] " + two + "] #1]"},
		{"[= x two four [#0 #1]]", 14, "[" + four + " #0]"},
		// under binders
		{"[^ x 0 [[id{2} *1] Nat] [[id{1} Nat] #0]]", 6, "[^ x 0 Nat #0]"},
		{"[^ x 0 Nat [[^ y 0 Nat [^ z 0 #1 [#1 #2]]] #0]]", 1, "[^ x 0 Nat [^ z 0 #0 [#1 #1]]]"},
		{"[! x 0 Nat [[[Eq{1} Nat] [[add #0] two]] #0]]", 11, "[! x 0 Nat [[[Eq{1} Nat] [Nat.succ [Nat.succ #0]]] #0]]"},
		{"[^ x 0 Nat [[add two] #0]]", 4, "[^ x 0 Nat [[[[Nat.rec{1} [^ t 0 Nat Nat]] " + two + "] [^ n 0 Nat [^ ih 0 Nat [Nat.succ #0]]]] #0]]"},
		// what makes no step by itself makes one with an argument more
		{"[[#9 [[[Nat.rec{1} #0] #1] #2]] [[[[Nat.rec{1} #0] #1] #2] Nat.zero]]", 1, "[[#9 [[[Nat.rec{1} #0] #1] #2]] #1]"},
		{"[[#9 [[[[[Quot.lift{0,0} #0] #1] #2] #3] #4]] [[[[[[Quot.lift{0,0} #0] #1] #2] #3] #4] [[[Quot.mk{0} #5] #6] #7]]]", 1,
			"[[#9 [[[[[Quot.lift{0,0} #0] #1] #2] #3] #4]] [#3 #7]]"},
		{"[[#9 [. Box 0 [Unit.rec{1} #0]]] [[[Unit.rec{1} #0] #1] #2]]", 1, "[[#9 [. Box 0 [Unit.rec{1} #0]]] #1]"},
		{"[[#9 [. Box 0 [[[Nat.rec{1} #0] #1] #2]]] [. Box 0 [[[[Nat.rec{1} #0] #1] #2] Nat.zero]]]", 1, "[[#9 [. Box 0 [[[Nat.rec{1} #0] #1] #2]]] [. Box 0 #1]]"},
		// four is one step, then add, two for its functions, two, three for each of
		// its Nat.succs, Nat.zero, and two again; three times it counts three times
		{"[[add two] two]", 12, four},
		{"four", 13, four},
		{"[[[#0 four] four] four]", 39, "[[[#0 " + four + "] " + four + "] " + four + "]"},
		{"[[[#0 [#1 two]] [#1 two]] two]", 3, "[[[#0 [#1 " + two + "]] [#1 " + two + "]] " + two + "]"},
		{"[[^ x 0 Nat [[#1 #0] [#0 #0]]] [#4 four]]", 40, "[[#0 [#4 " + four + "]] [[#4 " + four + "] [#4 " + four + "]]]"},
	} {
		x, work, code := slowStepsIn(e).slowly(1000, func(m *slowMeter) tree { return m.normal(treeOf(read(c.in))) })
		holdWork(t, "the slow way: "+c.in, x.term(), work, code, c.out, c.work, 0)
		holdFuels(t, c, func(x impl.Term, fuel int) (impl.Term, int, int) { return impl.Normal(e, x, fuel) })
		holdNormal(t, e, read(c.out), 0, c.out, 0, 0)
	}
}

// bursts makes a term of so many nodes in one step.
func bursts(nodes int) impl.Term {
	// each place is the variable and a node around it
	places := (nodes + 1) / 100
	rest := nodes - (places*100 - 1)
	x := app(lam("x", 0, prop(), spread(places-1, variable(0))), sized(99))
	for range rest {
		x = proj("Box", 0, x)
	}
	return x
}

func TestNormalTooGreat(t *testing.T) {
	e := stepEnv()
	endless, f := read(omega), variable(0)
	big, great := bursts(12000), bursts(impl.MaxNodes+1)
	for i, c := range []struct {
		x    impl.Term
		work int
		code int
	}{
		{bursts(impl.MaxNodes), 1, 0},
		{great, 1, impl.CodeSize},
		{app(f, big), 1, 0},
		{app(f, bursts(impl.MaxNodes-2)), 1, 0},
		{app(f, bursts(impl.MaxNodes-1)), 1, impl.CodeSize},
		{app(f, bursts(impl.MaxNodes)), 1, impl.CodeSize},
		{proj("Box", 0, app(f, bursts(impl.MaxNodes-3))), 1, 0},
		{proj("Box", 0, app(f, bursts(impl.MaxNodes-2))), 1, impl.CodeSize},
		{lam("x", 0, prop(), bursts(impl.MaxNodes-2)), 1, 0},
		{lam("x", 0, prop(), bursts(impl.MaxNodes-1)), 1, impl.CodeSize},
		{pi("x", 0, bursts(impl.MaxNodes-2), prop()), 1, 0},
		{pi("x", 0, bursts(impl.MaxNodes-1), prop()), 1, impl.CodeSize},
		{app(pi("x", 0, bursts(impl.MaxNodes-4), prop()), f), 1, 0},
		{app(pi("x", 0, bursts(impl.MaxNodes-3), prop()), f), 1, impl.CodeSize},
		// it is put together when all parts are there
		{app(f, big, big), 2, impl.CodeSize},
		{app(f, big, big, endless), impl.MaxFuel, impl.CodeFuel},
		{app(f, app(f, big, big), endless), 2, impl.CodeSize},
		{lam("x", 0, big, big), 2, impl.CodeSize},
		{app(pi("x", 0, big, big), endless), impl.MaxFuel, impl.CodeFuel},
		// kids, then arguments, from the first on
		{app(f, great, endless), 1, impl.CodeSize},
		{app(f, endless, great), impl.MaxFuel, impl.CodeFuel},
		{lam("x", 0, great, endless), 1, impl.CodeSize},
		{lam("x", 0, endless, great), impl.MaxFuel, impl.CodeFuel},
		{app(pi("x", 0, read("two"), great), endless), 2, impl.CodeSize},
		{app(pi("x", 0, read("two"), endless), great), impl.MaxFuel, impl.CodeFuel},
		{app(proj("Box", 0, app(f, great)), endless), 1, impl.CodeSize},
		{app(proj("Box", 0, app(f, endless)), great), impl.MaxFuel, impl.CodeFuel},
		{app(f, read("four"), read("four"), great), 27, impl.CodeSize},
		// parts are made their Whnf alone: what stands around them does not count
		{app(f, app(lam("x", 0, prop(), prop()), big), sized(7000)), 1, 0},
		{app(f, app(lam("x", 0, prop(), constant("some")), sized(9000)), sized(9000)), 1, 0},
		{app(f, app(lam("y", 0, prop(), constant("some")), app(f, big)), sized(7000)), 1, 0},
		{app(f, read("[. Prod 0 [[[[Prod.mk{0,0} Nat] Nat] some] two]]"), bursts(19000)), 2, 0},
	} {
		got, work, code := impl.Normal(e, c.x, impl.MaxFuel)
		if work != c.work || code != c.code || (code == 0) != impl.TermOk(got) {
			t.Errorf("case %d: work %d, code %d, not work %d, code %d", i, work, code, c.work, c.code)
		}
		if c.code != 0 {
			holdFuel(t, "case "+strconv.Itoa(i), e, c.x, c.work, c.code)
		}
	}
}

// holdFuel is for a term whose normal form has a code: with less fuel than the
// work there is not enough, with more nothing changes.
func holdFuel(t *testing.T, what string, e impl.Env, x impl.Term, work, code int) {
	t.Helper()
	for _, fuel := range []int{0, 1, work - 1, work, work + 1, impl.MaxFuel - 1} {
		wantWork, wantCode := min(fuel, work), code
		if fuel < work {
			wantCode = impl.CodeFuel
		}
		if fuel < 0 || fuel > impl.MaxFuel {
			continue
		}
		if code == impl.CodeFuel {
			wantWork = fuel
		}
		got, gotWork, gotCode := impl.Normal(e, x, fuel)
		holdWork(t, what+" with fuel "+strconv.Itoa(fuel), got, gotWork, gotCode, "", wantWork, wantCode)
	}
}

// What goes through great terms on its way is too great at a major's place when
// the whole is, but not by itself.
func TestNormalOfPartsAlone(t *testing.T) {
	e := stepEnv()
	around := sized(9999)
	// two of 6001 nodes each in between
	part := app(lam("y", 0, prop(), app(lam("z", 0, prop(), constant("some")), variable(0), variable(0))), sized(6001))
	holdNormal(t, e, part, impl.MaxFuel, "[some "+written(sized(6001))+"]", 2, 0)
	holdNormal(t, e, app(variable(0), part, sized(5999)), impl.MaxFuel, "[[#0 [some "+written(sized(6001))+"]] "+written(sized(5999))+"]", 2, 0)
	holdNormal(t, e, app(variable(0), part, around), impl.MaxFuel, "[[#0 [some "+written(sized(6001))+"]] "+written(around)+"]", 2, 0)
	recursor := app(constant("Nat.rec", succ(zero(), 1)), variable(0), around, variable(1))
	holdWhnf(t, e, app(recursor, part), true, impl.MaxFuel, "", 1, impl.CodeSize)
	holdNormal(t, e, app(recursor, part), impl.MaxFuel, "", 1, impl.CodeSize)
	holdNormal(t, e, app(variable(3), app(recursor, variable(2)), part), impl.MaxFuel, "[[#3 [[[[Nat.rec{1} #0] "+written(around)+"] #1] #2]] [some "+written(sized(6001))+"]]", 2, 0)
}

// The same work as if nothing were remembered.
func TestNormalOfTheSamePartOftenAgain(t *testing.T) {
	e := stepEnv()
	for _, part := range []string{"two", "four", "[[add four] four]", "[[^ x 0 Nat [[#1 #0] #0]] [#0 four]]"} {
		_, each, _ := slowStepsIn(e).slowly(impl.MaxFuel, func(m *slowMeter) tree { return m.normal(treeOf(read(part))) })
		for _, times := range []int{1, 2, 7, 400} {
			x := variable(0)
			for range times {
				x = app(x, read(part))
			}
			work := times * each
			got, gotWork, code := impl.Normal(e, x, impl.MaxFuel)
			if gotWork != work || code != 0 || !impl.TermOk(got) {
				t.Errorf("%d times %s: work %d, code %d", times, part, gotWork, code)
			}
			holdNormal(t, e, x, work, written(got), work, 0)
			holdNormal(t, e, x, work-1, "", work-1, impl.CodeFuel)
			holdNormal(t, e, x, work-each, "", work-each, impl.CodeFuel)
		}
	}
}

// Normal forms that are within each other more often than a term has nodes.
func TestNormalVeryDeep(t *testing.T) {
	t.Parallel()
	e := stepEnv()
	// each Nat.succ gives fifty more around the next one
	deep := "#0"
	for range 50 {
		deep = "[some " + deep + "]"
	}
	recursor := read("[[[Nat.rec{1} #0] #1] [^ n 0 Nat [^ ih 0 Nat " + deep + "]]]")
	for _, c := range []struct{ count, work, code int }{{1, 4, 0}, {199, 598, 0}, {200, 601, impl.CodeSize}, {810, 2431, impl.CodeSize}, {2500, 7501, impl.CodeSize}} {
		x := app(recursor, numeral(c.count, constant("Nat.zero")))
		got, work, code := impl.Normal(e, x, impl.MaxFuel)
		if work != c.work || code != c.code || (code == 0) != impl.TermOk(got) {
			t.Errorf("%d: work %d, code %d", c.count, work, code)
		}
		if c.code != 0 {
			holdFuel(t, "a deep one", e, x, c.work, c.code)
		}
	}
	// without end inwards
	for _, text := range []string{
		"[[^ x 0 *0 [#0 #0]] [^ x 0 *0 [some [#0 #0]]]]",
		"[[^ x 0 *0 [#0 #0]] [^ x 0 *0 [^ y 0 *0 [#1 #1]]]]",
		"[[^ x 0 *0 [#0 #0]] [^ x 0 *0 [! y 0 [#0 #0] *0]]]",
		"[[^ x 0 *0 [#0 #0]] [^ x 0 *0 [. Box 0 [some [[some two] [#0 #0]]]]]]",
	} {
		for _, fuel := range []int{0, 1, 2, 5, 1000, impl.MaxFuel} {
			holdNormal(t, e, read(text), fuel, "", fuel, impl.CodeFuel)
		}
		if _, work, code := impl.Whnf(e, read(text), true, impl.MaxFuel); code != 0 || work > 3 {
			t.Errorf("%s: work %d, code %d", text, work, code)
		}
	}
}

// Many that wait for each other, and for what makes no step.
func TestNormalOfWhatStandsStill(t *testing.T) {
	e := stepEnv()
	x := treeOf(read("#0"))
	for range 2300 {
		x = apply(treeOf(read("[[[Nat.rec{0} #0] #1] #2]")), []tree{x})
	}
	var around []impl.Node
	for range 1500 {
		around = append(around, impl.Node{K: impl.TermProj, S: "Box", Kids: []int{0}})
	}
	still := x.term()
	for i := range around {
		around[i].Kids[0] = len(still.Nodes) - 1 + i
	}
	still.Nodes = append(still.Nodes, around...)
	holdNormal(t, e, still, 0, written(still), 0, 0)
	holdWhnf(t, e, still, true, 0, written(still), 0, 0)
}
