package tests

import (
	"strings"
	"testing"

	"loop.example/g00005/impl"
)

// Where the fuel runs out: in the rule of the node that is looked at then. Each
// row has the places for the fuels from 0 on, and last the whole work.
func TestPlacesWithoutFuel(t *testing.T) {
	e, ctx := convEnv(), convContext()
	for _, c := range []struct {
		x      string
		places []int
	}{
		{"[Nat.succ two]", []int{2}},
		{"[[add two] two]", []int{2, 4}},
		{"[Nat.succ [Nat.succ [Nat.succ two]]]", []int{4, 5, 6}},
		{"[[add [Nat.succ two]] [Nat.succ two]]", []int{3, 4, 7, 8}},
		// the same part again: each time in its own place
		{"[[add [[add two] #11]] [[add two] #11]]", []int{3, 5, 6, 9, 11, 12}},
		{"[^ x 0 Nat [[add [#10 #0]] [#10 #0]]]", []int{4, 5, 8, 9}},
		{"[[add [fun two]] [fun two]]", []int{3, 3, 4, 7, 7, 8}},
		// A, B and v, each by the rule of the node around
		{"[^ x 0 set [^ y 0 set two]]", []int{4, 3}},
		{"[! x 0 set [! y 0 set Nat]]", []int{4, 3}},
		{"[! x 0 set [! y 0 Nat set]]", []int{4, 3}},
		{"[! x 0 statement set]", []int{2, 2, 2, 2}},
		{"[^ x 0 [fam two] [Nat.succ two]]", []int{2, 2, 6, 5}},
		{"[. Prod 0 [[id{1} Pair] pair]]", []int{2, 4, 5}},
		{"[Nat.succ [. Prod 0 pair]]", []int{2, 3}},
		// a TermLet's Put has no places of its own
		{"[= x Nat [Nat.succ two] [Nat.succ [Nat.succ #0]]]", []int{3, 9, 9, 9, 9}},
		{"[[add [= x Nat two [Nat.succ #0]]] [Nat.succ two]]", []int{6, 6, 7, 10, 11}},
		{"[= x Nat two [= y Nat [Nat.succ #0] [Nat.succ #0]]]", []int{10, 10, 10, 10, 10}},
		{"[= x Nat [= y Nat two [Nat.succ #0]] [Nat.succ #0]]", []int{6, 6, 10, 10, 10, 10}},
	} {
		q := checkAsk{way: askInfer, ctx: ctx, x: read(c.x)}
		for fuel, place := range c.places {
			q.hold(t, e, fuel, checkAnswer{"", fuel, impl.CodeFuel, place})
		}
		if got := q.ask(e, len(c.places)); got.code != 0 || got.work != len(c.places) {
			t.Errorf("%s: %s", c.x, got.text())
		}
	}
	// the types of a context, and the last comparison
	q := checkAsk{way: askCtx, ctx: contextOf("set", "Nat", "statement", "[fam two]")}
	for fuel, place := range []int{0, 2, 2, 2, 3, 3, 3} {
		q.hold(t, e, fuel, checkAnswer{"", fuel, impl.CodeFuel, place})
	}
	q = checkAsk{way: askCheck, ctx: ctx, x: read("[[add [#9 two]] two]"), want: read("[[id{2} *1] Nat]")}
	for fuel, place := range []int{3, 4, 6, 6, 6, 6, 6} {
		q.hold(t, e, fuel, checkAnswer{"", fuel, impl.CodeFuel, place})
	}
}

// Types that make steps for ever take any fuel, but only where they are looked
// at.
func TestCheckingWithoutEnd(t *testing.T) {
	e := convEnv()
	ctx := contextOf(omega, "[#0 "+omega+"]", "Nat")
	for _, fuel := range []int{0, 1, 2, 7, 50, impl.MaxFuel - 1, impl.MaxFuel} {
		for _, c := range []struct {
			x     string
			place int
		}{
			{"[ever two]", 2},
			{"[#2 two]", 2},
			{"[. Prod 0 ever]", 1},
			{"[! x 0 ever Nat]", 2},
			{"[! x 0 Nat #3]", 2},
			{"[^ x 0 #2 ?0]", 2},
			{"[= x ever ?0 ?0]", 3},
			{"[Nat.succ #2]", 2},
			{"[= x Nat #2 ?0]", 3},
			{"[= x Nat #0 [#3 two]]", 5},
			{"[[add #2] ?0]", 2},
		} {
			checkAsk{way: askInfer, ctx: ctx, x: read(c.x)}.hold(t, e, fuel, checkAnswer{"", fuel, impl.CodeFuel, c.place})
		}
		for x, want := range map[string]string{
			"ever":                      omega,
			"#2":                        omega,
			"#1":                        "[#2 " + omega + "]",
			"[^ x 0 Nat ever]":          "[! x 0 Nat " + omega + "]",
			"[^ x 0 Nat [^ y 0 *0 #4]]": "[! x 0 Nat [! y 0 *0 " + omega + "]]",
		} {
			checkAsk{way: askInfer, ctx: ctx, x: read(x)}.hold(t, e, fuel, checkAnswer{typ: want})
		}
		checkAsk{way: askCheck, ctx: ctx, x: read("#2"), want: prop()}.hold(t, e, fuel, checkAnswer{"", fuel, impl.CodeFuel, 0})
		// the types of the context are no types themselves
		checkAsk{way: askCtx, ctx: contextOf("Nat", "ever")}.hold(t, e, fuel, checkAnswer{"", fuel, impl.CodeFuel, 1})
	}
	checkAsk{way: askCheck, ctx: ctx, x: read("#2"), want: read(omega)}.hold(t, e, 1, checkAnswer{work: 1})
}

// The work is that of each place, however often the same part is looked at.
func TestInferTheSamePartManyTimes(t *testing.T) {
	holdInferCases(t, convEnv(), convContext(), []inferCase{
		{many(10, "[[add [fun two]] @]", "two"), "Nat", 10 * (2 + 2), 0, 0},
		{many(5, "[[add [slow #11]] @]", "[slow #11]"), "Nat", 5*(5+2) + 5, 0, 0},
		{many(6, "[! x 0 statement @]", "statement"), "*" + many(6, "imax(0,@)", "0"), 21, 0, 0},
		// the same terms under other binders: with Fun the function's type takes a step more
		{"[^ f 0 Fun [^ g 0 [! n 0 Nat Nat] [[add [#1 two]] [#0 two]]]]", "[! f 0 Fun [! g 0 [! n 0 Nat Nat] Nat]]", 2 + 1 + 1 + 1, 0, 0},
		{"[[[^ h 0 [! f 0 Fun Nat] [^ k 0 [! f 0 [! n 0 Nat Nat] Nat] two]] [^ f 0 Fun [#0 two]]] [^ f 0 [! n 0 Nat Nat] [#0 two]]]", "Nat", 2 + 1 + 1 + 1, 0, 0},
		// a TermLet's v is looked at where it stands, and wherever it was put
		{"[= x Nat [slow two] [[add #0] [[add #0] #0]]]", "Nat", 5 + 1 + 3*5 + 4, 0, 0},
		{"[= x Nat [slow two] two]", "Nat", 6, 0, 0},
		{"[= x Nat [slow two] [= y Nat #0 [[add #0] #1]]]", "Nat", 6 + 5 + 1 + 2*5 + 2, 0, 0},
		{"[= x Nat [slow two] [^ y 0 Nat [[add #1] #1]]]", "[! y 0 Nat Nat]", 6 + 2*5 + 2, 0, 0},
		{"[= x Nat [slow #11] [^ y 0 Nat [[add #1] [#10 #1]]]]", "[! y 0 Nat Nat]", 6 + 5 + 1 + 5 + 1 + 1, 0, 0},
	})
	// twice as much for each TermLet
	for count := range 5 {
		x := many(count, "[= y Nat @ #0]", "[slow two]")
		holdInferCases(t, convEnv(), nil, []inferCase{{x, "Nat", 6<<count - 1, 0, 0}})
	}
}

// What takes much is found once, but counted each time.
func TestInferWithMuchWork(t *testing.T) {
	e := convEnv()
	x := read(many(14, "[= y Nat @ #0]", "[slow two]"))
	q := checkAsk{way: askInfer, x: x}
	const work = 6<<14 - 1
	q.hold(t, e, impl.MaxFuel, checkAnswer{"Nat", work, 0, 0})
	q.hold(t, e, work, checkAnswer{"Nat", work, 0, 0})
	// the innermost value ends at node 15 + 1; the TermLets stand behind it, each with its b in front
	q.hold(t, e, work-1, checkAnswer{"", work - 1, impl.CodeFuel, len(x.Nodes) - 1})
	q.hold(t, e, work/2, checkAnswer{"", work / 2, impl.CodeFuel, len(x.Nodes) - 1})
	q.hold(t, e, work/2-1, checkAnswer{"", work/2 - 1, impl.CodeFuel, len(x.Nodes) - 3})
	q.hold(t, e, 4, checkAnswer{"", 4, impl.CodeFuel, 16})
	q.x = read(many(40, "[= y Nat @ #0]", "[slow two]"))
	got := q.ask(e, impl.MaxFuel)
	// 14 TermLets take less than there is, and the 15th takes more
	if got != (checkAnswer{"", impl.MaxFuel, impl.CodeFuel, 40 + 2 + 2*15}) {
		t.Errorf("many TermLets: %s", got.text())
	}
	// the same in places of their own
	half := read(many(13, "[= y Nat @ #0]", "[slow two]"))
	q.x = app(constant("add"), half, half)
	const each = 6<<13 - 1
	q.hold(t, e, impl.MaxFuel, checkAnswer{"Nat", 2*each + 2, 0, 0})
	size := len(half.Nodes)
	for _, c := range []struct{ fuel, place int }{
		{4, 1 + 15}, {each - 1, size}, {each, size + 1}, {each + 1 + 4, size + 2 + 15}, {2 * each, 2*size + 1}, {2*each + 1, 2*size + 2},
	} {
		q.hold(t, e, c.fuel, checkAnswer{"", c.fuel, impl.CodeFuel, c.place})
	}
}

// With another code the work is what was counted until then, and more fuel
// changes nothing: promise 11.
func TestCheckingWithMoreFuel(t *testing.T) {
	t.Parallel()
	e, ctx := convEnv(), convContext()
	for _, text := range []string{
		"[[add [slow two]] [[slow two] ?0]]", "[[add [slow two]] [slow #5]]", "[= x Nat [slow two] [#0 #0]]", "[[by one] [[Eq.refl{1} Nat] four]]",
		"[[by four] [[Eq.refl{1} Nat] [[add two] two]]]", "[[[nary two] #11] [slow #10]]", "[[[nary two] #11] [slow #5]]", "[. Prod 0 [[id{1} Pair] [slow two]]]",
	} {
		for way := range 2 {
			q := checkAsk{way, checkParams(), ctx, read(text), read("[[id{2} *1] Nat]")}
			answer := q.ask(e, impl.MaxFuel)
			if answer.work == 0 || answer.code == impl.CodeFuel {
				t.Errorf("%s: %s", q.text(), answer.text())
			}
			for fuel := range answer.work + 50 {
				got := q.ask(e, fuel)
				if fuel >= answer.work && got != answer || fuel < answer.work && (got.code != impl.CodeFuel || got.work != fuel || got.typ != "") {
					t.Errorf("%s, fuel %d: %s", q.text(), fuel, got.text())
				}
			}
		}
	}
}

// Long terms are soon through.
func TestInferLongTerms(t *testing.T) {
	t.Parallel()
	e := convEnv()
	nat := constant("Nat")
	const count = 3000
	ctx := []impl.Term{nat, nat, telescopeOf(count, nat, nat)}
	x := variable(0)
	for i := range count {
		x.Nodes = append(x.Nodes, impl.Node{K: impl.TermVar, N: 1 + i%2}, impl.Node{K: impl.TermApp, Kids: []int{len(x.Nodes) - 1, len(x.Nodes)}})
	}
	q := checkAsk{way: askInfer, ctx: ctx, x: x}
	q.hold(t, e, count, checkAnswer{typ: "Nat", work: count})
	q.hold(t, e, count-1, checkAnswer{"", count - 1, impl.CodeFuel, 2 * count})
	q.hold(t, e, count/2, checkAnswer{"", count / 2, impl.CodeFuel, count + 2})
	// the last argument but one is of another type
	x.Nodes[2*count-3].N = 0
	q.hold(t, e, impl.MaxFuel, checkAnswer{"", count - 1, impl.CodeArg, 2*count - 2})

	q.x = numeral(9000, variable(1))
	q.hold(t, e, 9000, checkAnswer{typ: "Nat", work: 9000})
	q.hold(t, e, 8999, checkAnswer{"", 8999, impl.CodeFuel, 18000})
	q.x = numeral(9000, constant("Unit.star"))
	q.hold(t, e, 9000, checkAnswer{"", 1, impl.CodeArg, 9001})
	q.x = numeral(9000, hole(0))
	q.hold(t, e, 9000, checkAnswer{"", 0, impl.CodeHole, 9000})

	typ, work, code, place := impl.Infer(e, nil, ctx, lams(9000, func(int) impl.Term { return nat }, variable(9001)), 0)
	if !impl.SameTerm(typ, telescopeOf(9000, nat, nat)) || work != 0 || code != 0 || place != 0 {
		t.Errorf("many TermLams: work %d, code %d at %d", work, code, place)
	}
	q.x = lams(9000, func(int) impl.Term { return nat }, hole(0))
	q.hold(t, e, 0, checkAnswer{"", 0, impl.CodeHole, 9000})

	q.x = wrapLets(count, nat, variable(1), variable(count+1))
	q.hold(t, e, count, checkAnswer{typ: "Nat", work: count})
	q.hold(t, e, count-1, checkAnswer{"", count - 1, impl.CodeFuel, 3 * count})
	q.x = wrapLets(count, nat, variable(1), hole(0))
	q.hold(t, e, impl.MaxFuel, checkAnswer{"", count, impl.CodeHole, 3 * count})

	// TermLets in arguments: each has a Put of its own
	q.ctx = []impl.Term{nat, nat}
	q.x = read(many(400, "[Nat.succ [= y Nat #1 @]]", "#1"))
	q.hold(t, e, impl.MaxFuel, checkAnswer{typ: "Nat", work: 800})
	q.hold(t, e, 799, checkAnswer{"", 799, impl.CodeFuel, len(q.x.Nodes) - 1})
	q.hold(t, e, 798, checkAnswer{"", 798, impl.CodeFuel, len(q.x.Nodes) - 2})
	q.x = read(strings.Replace(written(q.x), "[Nat.succ [= y Nat #1 #1]]", "?0", 1))
	q.hold(t, e, impl.MaxFuel, checkAnswer{"", 399, impl.CodeHole, len(q.x.Nodes) - 2})
}

// The type that a term has is compared with the one that is wanted, not the other
// way: where the first one's A stands behind the context, its steps count.
func TestOrderOfComparisons(t *testing.T) {
	plain := "[! f 0 [! n 0 Nat Nat] [[[Eq{1} Nat] [#0 deuce]] two]]"
	named := "[! f 0 Fun [[[Eq{1} Nat] [#0 two]] two]]"
	// to infer the two takes 4 and 5, to compare them 9, and in turn 10
	holdInferCases(t, convEnv(), convContext(), []inferCase{
		{"[^ g 0 " + plain + " [[^ k 0 " + named + " two] #0]]", "[! g 0 " + plain + " Nat]", 4 + 5 + 9, 0, 0},
		{"[^ g 0 " + named + " [[^ k 0 " + plain + " two] #0]]", "[! g 0 " + named + " Nat]", 4 + 5 + 10, 0, 0},
		{"[^ g 0 " + plain + " [= k " + named + " #0 two]]", "[! g 0 " + plain + " Nat]", 4 + 5 + 9, 0, 0},
		{"[^ g 0 " + named + " [= k " + plain + " #0 two]]", "[! g 0 " + named + " Nat]", 4 + 5 + 10, 0, 0},
	})
	w := slowStepsIn(convEnv())
	checkAsk{way: askCheck, ctx: contextOf(plain), x: variable(0), want: read(named)}.holdEveryFuel(t, w, checkAnswer{work: 9})
	checkAsk{way: askCheck, ctx: contextOf(named), x: variable(0), want: read(plain)}.holdEveryFuel(t, w, checkAnswer{work: 10})
}
