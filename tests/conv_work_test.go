package tests

import (
	"strconv"
	"strings"
	"testing"

	"loop.example/g00005/impl"
)

// Terms and types that make steps for ever take any fuel, but only where they are
// looked at.
func TestConvWithoutEnd(t *testing.T) {
	e := convEnv()
	ctx := contextOf("Nat", omega, "[! n 0 Nat Nat]")
	endless := "[[^ x 0 *0 [[id{1} Nat] [#0 #0]]] [^ x 0 *0 [[id{1} Nat] [#0 #0]]]]"
	grow := "[[^ x 0 *0 [Nat.succ [#0 #0]]] [^ x 0 *0 [Nat.succ [#0 #0]]]]"
	again := strings.ReplaceAll(grow, "*0", "*1")
	for _, fuel := range []int{0, 1, 2, 7, 50, impl.MaxFuel - 1, impl.MaxFuel} {
		for _, texts := range [][3]string{
			{"conv", "two", omega},
			{"conv", "[Nat.succ " + omega + "]", "two"},
			{"conv", "#1", "two"},
			{"conv", "ever", "two"},
			{"types", omega, "Nat"},
			{"types", "Nat", omega},
			{"types", endless, "Nat"},
			{"types", endless, strings.ReplaceAll(endless, "*0", "*1")},
			{"types", "[! x 0 " + omega + " Nat]", "[! x 0 Nat Nat]"},
			{"types", "[! x 0 Nat " + omega + "]", "[! x 0 Nat Nat]"},
			// what is compared comes back within itself, with no end to it
			{"types", grow, again},
			{"conv", "[Nat.succ " + grow + "]", "[Nat.succ " + again + "]"},
			{"conv", "[^ z 0 Nat [Nat.succ [[^ x 0 *0 [Nat.succ [#0 #0]]] [^ x 0 *0 [Nat.succ [[[^ y 0 Nat [^ w 0 *0 #0]] #2] [#0 #0]]]]]]]", "[^ z 0 Nat [Nat.succ " + again + "]]"},
		} {
			q := convAsk{askConv, ctx, read(texts[1]), read(texts[2])}
			if texts[0] == "types" {
				q.way = askTypes
			}
			q.hold(t, e, fuel, false, fuel, impl.CodeFuel)
		}
		q := convAsk{way: askIrrelevant, ctx: ctx, a: read("#1")}
		q.hold(t, e, fuel, false, fuel, impl.CodeFuel)
	}
	holdConvCases(t, askTypes, e, ctx, []convCase{
		{omega, omega, true, 1, 0},
		{"[! x 0 Nat " + omega + "]", "[! x 0 Unit " + omega + "]", false, 2, 0},
		{"[[[Eq{1} Nat] two] " + omega + "]", "[[[Eq{1} Nat] one] " + endless + "]", false, 6, 0},
		{"[[#0 " + omega + "] two]", "[#0 two]", false, 1, 0},
		{"[^ x 0 Nat " + omega + "]", "[^ x 0 Nat two]", false, 1, 0},
	})
}

// The work is that of each place, however often the same is compared.
func TestConvOfTheSamePartManyTimes(t *testing.T) {
	e, ctx := convEnv(), convContext()
	both := func(text string) (string, string) {
		return strings.ReplaceAll(text, "@", "four"), strings.ReplaceAll(text, "@", "[Nat.succ three]")
	}
	// the comparison of these two takes 16
	var cases []convCase
	for _, c := range []struct {
		text string
		work int
	}{
		{"[[[Eq{1} Nat] @] @]", 1 + 1 + 2*16},
		{"[[[Eq{1} Nat] [#9 @]] [#9 @]]", 1 + 1 + 2*(1+16)},
		{"[! x 0 [[Vec{1} Nat] @] [[Vec{1} Nat] @]]", 1 + 2*(1+1+16)},
		{"[! x 0 [[[Eq{1} Nat] @] @] [[[Eq{1} Nat] @] [#10 @]]]", 1 + (1 + 1 + 2*16) + (1 + 1 + 16 + 1 + 16)},
		{"[[by @] [[by @] [[by @] two]]]", 1 + 16 + 1},
	} {
		a, b := both(c.text)
		cases = append(cases, convCase{a, b, true, c.work, 0})
	}
	holdConvCases(t, askTypes, e, ctx, cases)
	// the same terms under other binders: with Fun the type of the function takes a step more
	in := func(n string) string {
		inner := "[[[Eq{1} Nat] [#0 " + n + "]] two]"
		return "[! x 0 [! f 0 Fun " + inner + "] [! f 0 [! n 0 Nat Nat] " + inner + "]]"
	}
	holdConvCases(t, askTypes, e, ctx, []convCase{
		{in("two"), in("deuce"), true, 1 + (1 + 1 + 1 + 1 + 4 + 1) + (1 + 1 + 1 + 1 + 3 + 1), 0},
	})
	// under other binders, but with the same terms
	a, b := both("[^ x 0 Nat [^ y 0 Nat [[[[Prod.mk{0,0} Nat] Nat] [[first @] #0]] [[second #1] @]]]]")
	q := convAsk{askConv, ctx, read(a), read(b)}
	same, work, code, _ := q.slowly(slowStepsIn(e), impl.MaxFuel, false)
	if !same || code != 0 || work < 40 {
		t.Fatalf("by the slow way %v, work %d, code %d", same, work, code)
	}
	holdConvCase(t, slowStepsIn(e), q, convCase{a, b, true, work, 0})
}

// A comparison that takes much is done once, but counted each time: here twice as
// often for each TermLet.
func TestConvWithMuchWork(t *testing.T) {
	e := behind(convEnv(),
		family("Bin", "", 0, "*1"),
		declared(impl.KindAxiom, "leaf", "", "[! n 0 Nat Bin]", ""),
		declared(impl.KindAxiom, "node", "", "[! a 0 Bin [! b 0 Bin Bin]]", ""),
	)
	const levels = 12
	twofold := func(last string) impl.Term {
		x := read("[leaf " + last + "]")
		for range levels {
			x = let("t", constant("Bin"), x, app(constant("node"), variable(0), variable(0)))
		}
		return x
	}
	// for each node a comparison and the steps of both TermLets, for each leaf one, and what its number takes
	want := (1<<levels-1)*3 + 1<<levels*(1+16)
	q := convAsk{askConv, nil, twofold("four"), twofold("[Nat.succ three]")}
	q.hold(t, e, impl.MaxFuel, true, want, 0)
	q.hold(t, e, want, true, want, 0)
	for _, fuel := range []int{want - 1, want / 2, want/2 + 1, want / 3, 1000} {
		q.hold(t, e, fuel, false, fuel, impl.CodeFuel)
	}
	// with other numbers the first leaf ends it
	q = convAsk{askConv, nil, twofold("four"), twofold("three")}
	q.hold(t, e, impl.MaxFuel, false, levels*3+1+19, 0)
}

// Long terms and types are soon through.
func TestConvOfLongTerms(t *testing.T) {
	t.Parallel()
	e := convEnv()
	nat := constant("Nat")
	const count = 3000
	typ := telescopeOf(count, nat, nat)
	ctx := []impl.Term{nat, nat, typ, typ}
	spineOf := func(last int) impl.Term {
		x := variable(0)
		for i := range count {
			arg := impl.Node{K: impl.TermVar, N: 2 + i%2}
			if i == count-1 {
				arg.N = last
			}
			x.Nodes = append(x.Nodes, arg, impl.Node{K: impl.TermApp, Kids: []int{len(x.Nodes) - 1, len(x.Nodes)}})
		}
		return x
	}
	ask := func(way int, a, b impl.Term, same bool, work int) {
		t.Helper()
		q := convAsk{way, ctx, a, b}
		q.hold(t, e, impl.MaxFuel, same, work, 0)
		q.hold(t, e, work, same, work, 0)
		q.hold(t, e, work-1, false, work-1, impl.CodeFuel)
		q.hold(t, e, work/2, false, work/2, impl.CodeFuel)
	}
	// a comparison for each argument
	ask(askTypes, spineOf(2), spineOf(3), false, 1+count)
	ask(askConv, spineOf(2), spineOf(3), false, 1+count)
	// for each function
	ask(askConv, variable(0), variable(1), false, 1+count)
	body := func(n int) impl.Term { return lams(count, func(int) impl.Term { return nat }, variable(n)) }
	ask(askConv, body(0), body(1), false, 1+count+2*count)
	ask(askConv, body(0), variable(0), false, 1+count+count)
	// for each Nat.succ
	ask(askConv, numeral(count, constant("some")), numeral(count, variable(2)), false, 1+count)
	ask(askConv, numeral(count, variable(3)), numeral(count-1, app(constant("id", succ(zero(), 1)), nat, app(constant("Nat.succ"), variable(3)))), true, count+3)
	// for each type
	ask(askTypes, telescopeOf(count, nat, nat), telescopeOf(count, nat, constant("Unit")), false, 1+2*count)
	ask(askTypes, telescopeOf(count, nat, nat), telescopeOf(count, nat, constant("Nat.zero")), false, 1+2*count)
	// for each projection, which stand within each other
	x, y := variable(2), variable(3)
	for range 5 {
		x, y = proj("Box", 0, x), proj("Box", 0, y)
	}
	ask(askTypes, x, y, false, 1)
}

// A structure of many fields.
func TestConvOfManyFields(t *testing.T) {
	t.Parallel()
	const count = 1500
	d := impl.Decl{Kind: impl.KindFamily, Name: "Wide", Type: read("*1"), Ctors: []impl.Ctor{{Name: "Wide.mk", Type: telescopeOf(count, constant("Nat"), constant("Wide"))}}}
	e := behind(convEnv(), d)
	ctx := []impl.Term{constant("Wide"), constant("Wide")}
	x := constant("Wide.mk")
	for i := range count {
		root := len(x.Nodes) - 1
		x.Nodes = append(x.Nodes, impl.Node{K: impl.TermVar}, impl.Node{K: impl.TermProj, S: "Wide", N: i, Kids: []int{root + 1}}, impl.Node{K: impl.TermApp, Kids: []int{root, root + 2}})
	}
	(convAsk{askConv, ctx, variable(0), x}).hold(t, e, impl.MaxFuel, true, 1+2*count, 0)
	(convAsk{askConv, ctx, x, variable(0)}).hold(t, e, impl.MaxFuel, true, 1+2*count, 0)
	(convAsk{askConv, ctx, x, variable(0)}).hold(t, e, 2*count, false, 2*count, impl.CodeFuel)
	(convAsk{askConv, ctx, variable(0), variable(1)}).hold(t, e, impl.MaxFuel, false, 2, 0)
	// the last field is another one
	x.Nodes[len(x.Nodes)-2].N = 0
	(convAsk{askConv, ctx, variable(0), x}).hold(t, e, impl.MaxFuel, false, 1+2*count, 0)
}

// Structures within each other are compared field by field: as many as there are,
// but not one by one.
func TestConvOfStructuresWithinEachOther(t *testing.T) {
	e := convEnv()
	typ := "Nat"
	for range 10 {
		typ = "[[Prod{0,0} " + typ + "] " + typ + "]"
	}
	unit := strings.ReplaceAll(typ, "Nat", "Unit")
	ctx := contextOf(typ, typ, unit, unit)
	// the first leaf is another one
	(convAsk{askConv, ctx, variable(3), variable(2)}).hold(t, e, impl.MaxFuel, false, 11, 0)
	// all leaves are one
	(convAsk{askConv, ctx, variable(0), variable(1)}).hold(t, e, impl.MaxFuel, true, 2<<10-1, 0)
	(convAsk{askConv, ctx, variable(0), variable(1)}).hold(t, e, 2<<10-2, false, 2<<10-2, impl.CodeFuel)
	(convAsk{askConv, ctx, variable(0), variable(3)}).hold(t, e, impl.MaxFuel, true, 2<<10-1, 0)
}

// More fuel than enough changes nothing, whatever the answer is: promise 11.
func TestConvWithMoreFuel(t *testing.T) {
	e, ctx := convEnv(), convContext()
	for i, q := range []convAsk{
		{askConv, ctx, read("four"), read("[Nat.succ three]")},
		{askConv, ctx, read("four"), read("three")},
		{askTypes, ctx, read("[[[nary two] #11] #11]"), read("[[[nary two] #11] #10]")},
		{askTypes, ctx, read("[[fun two] #11]"), read("[[fun two] #10]")},
		{askTypes, ctx, read("[[[Eq{1} Nat] four] [?0 two]]"), read("[[[Eq{1} Nat] [Nat.succ three]] [?0 one]]")},
		{way: askIrrelevant, ctx: ctx, a: read("[fam two]")},
		{way: askIrrelevant, ctx: ctx, a: read("[slow two]")},
	} {
		same, work, code := q.ask(e, impl.MaxFuel)
		for fuel := range work + 50 {
			if fuel < work {
				q.hold(t, e, fuel, false, fuel, impl.CodeFuel)
			} else {
				q.hold(t, e, fuel, same, work, code)
			}
		}
		if work == 0 {
			t.Errorf("case %s takes no work", strconv.Itoa(i))
		}
	}
}
