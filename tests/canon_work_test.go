package tests

import (
	"math/rand"
	"strings"
	"testing"
	"time"

	"loop.example/g00005/impl"
)

// Terms and types that make steps for ever take any fuel, but only where they are
// looked at.
func TestCanonWithoutEnd(t *testing.T) {
	t.Parallel()
	e := convEnv()
	ctx := contextOf("Nat", omega, "[! n 0 Nat Nat]")
	grow := "[[^ x 0 *0 [Nat.succ [#0 #0]]] [^ x 0 *0 [Nat.succ [#0 #0]]]]"
	under := "[[^ x 0 *0 [of [^ n 0 Nat [#1 #1]]]] [^ x 0 *0 [of [^ n 0 Nat [#1 #1]]]]]"
	pis := "[[^ x 0 *0 [! n 0 Nat [#1 #1]]] [^ x 0 *0 [! n 0 Nat [#1 #1]]]]"
	for _, fuel := range []int{0, 1, 2, 7, 50, impl.MaxFuel - 1, impl.MaxFuel} {
		for _, q := range []canonAsk{
			{askCanonType, ctx, read(omega)},
			{askCanonType, ctx, read("[! x 0 " + omega + " Nat]")},
			{askCanonType, ctx, read("[! x 0 Nat " + omega + "]")},
			{askCanonType, ctx, read("[#0 " + omega + "]")},
			{askCanon, ctx, read("[Nat.succ " + omega + "]")},
			{askCanon, ctx, read("#1")},
			{askCanon, ctx, read("ever")},
			{askCanon, ctx, read("[[[[Prod.mk{0,0} Nat] Nat] two] " + omega + "]")},
			// what comes back within itself, with no end to it
			{askCanonType, ctx, read(grow)},
			{askCanon, ctx, read("[Nat.succ " + grow + "]")},
			{askCanonType, ctx, read(under)},
			{askCanon, ctx, read("[of [^ m 0 Nat " + under + "]]")},
			{askCanonType, ctx, read(pis)},
			{askCanonType, ctx, read("[! x 0 " + pis + " Nat]")},
		} {
			q.hold(t, e, fuel, "", fuel, impl.CodeFuel)
		}
	}
	holdCanonCases(t, askCanonType, e, ctx, []typeCase{
		{"[^ x 0 Nat " + omega + "]", "[^ x 0 Nat " + omega + "]", 1, 0},
		{"[[by two] " + omega + "]", "[[by [Nat.succ [Nat.succ Nat.zero]]] ?0]", 6, 0},
		{"[?0 " + omega + "]", "", 1, impl.CodeHole},
	})
}

// The work is that of each place, however often the same is made canonical.
func TestCanonOfTheSamePartManyTimes(t *testing.T) {
	t.Parallel()
	e, ctx := canonEnv(), convContext()
	form := "[Nat.succ [Nat.succ [Nat.succ [Nat.succ Nat.zero]]]]"
	work := 0
	if got, took, code := impl.Canon(e, ctx, read("four"), impl.MaxFuel); told(got) != form || code != 0 {
		t.Fatalf("%s, code %d", told(got), code)
	} else {
		work = took
	}
	filled := func(text string) string { return strings.ReplaceAll(text, "@", form) }
	var cases []typeCase
	for _, c := range []struct {
		text string
		work int
	}{
		{"[[[Eq{1} Nat] @] @]", 1 + 2 + 2*work},
		{"[[[Eq{1} Nat] [#9 @]] [#9 @]]", 1 + 2 + 2*(1+work)},
		{"[! x 0 [[Vec{1} Nat] @] [[Vec{1} Nat] @]]", 1 + 2*(1+2+work)},
		{"[! x 0 [#3 @] [! x 0 [#4 @] [#5 @]]]", 2 + 3*(1+work)},
	} {
		cases = append(cases, typeCase{strings.ReplaceAll(c.text, "@", "four"), filled(c.text), c.work, 0})
	}
	holdCanonCases(t, askCanonType, e, ctx, cases)
	// the same term in other scopes, where the type of its variable takes a step more
	holdCanonCases(t, askCanonType, e, ctx, []typeCase{
		{
			"[! x 0 [! f 0 [! n 0 Nat Nat] [#4 [#0 two]]] [! f 0 Fun [#5 [#0 two]]]]",
			"[! x 0 [! x 0 [! x 0 Nat Nat] [#4 [#0 [Nat.succ [Nat.succ Nat.zero]]]]] [! x 0 [! x 0 Nat Nat] [#5 [#0 [Nat.succ [Nat.succ Nat.zero]]]]]]",
			1 + (1 + 3 + 6) + (1 + 4 + 7), 0,
		},
	})
	// a closed term at types of one text, which hang on their scopes
	e = behind(e,
		declared(impl.KindAxiom, "pick", "", "[! A 0 *1 [! a 0 #0 *1]]", ""),
		declared(impl.KindAxiom, "taken", "", "[! f 0 [! g 0 Fun Nat] [! h 0 [! g 0 [! n 0 Nat Nat] Nat] *1]]", ""),
		declared(impl.KindAxiom, "given", "", "[! h 0 [! g 0 [! n 0 Nat Nat] Nat] [! f 0 [! g 0 Fun Nat] *1]]", ""),
	)
	function := "[^ x 0 [! x 0 Nat Nat] [of [^ x 0 Nat [#1 #0]]]]"
	holdCanonCases(t, askCanonType, e, ctx, []typeCase{
		{
			"[! x 0 [! A 0 *0 [[pick #0] two]] [! A 0 *1 [[pick #0] two]]]",
			"[! x 0 [! x 0 *0 [[pick #0] ?0]] [! x 0 *1 [[pick #0] [Nat.succ [Nat.succ Nat.zero]]]]]",
			1 + (2 + 1 + 2 + 1) + (2 + 1 + 2 + 4), 0,
		},
		// a closed function, whose variable has a type that takes a step, or none
		{"[[taken of] of]", "[[taken " + function + "] " + function + "]", 1 + (9 + 1 + 1) + 9, 0},
		{"[[given of] of]", "[[given " + function + "] " + function + "]", 1 + 9 + (9 + 1 + 1), 0},
	})
	// the same body in a function and by itself
	holdCanonCases(t, askCanon, e, ctx, []typeCase{
		{"[[[[Prod.mk{0,0} Nat] Fun] [#9 two]] [^ n 0 Nat [#10 two]]]", "[[[[Prod.mk{0,0} Nat] [! x 0 Nat Nat]] [#9 [Nat.succ [Nat.succ Nat.zero]]]] [^ x 0 Nat [#10 [Nat.succ [Nat.succ Nat.zero]]]]]", 24, 0},
	})
}

// A form that takes much is made once, but counted each time: here twice as often
// for each TermLet.
func TestCanonWithMuchWork(t *testing.T) {
	t.Parallel()
	e := behind(convEnv(),
		family("Bin", "", 0, "*1"),
		declared(impl.KindAxiom, "leaf", "", "[! n 0 Nat Bin]", ""),
		declared(impl.KindAxiom, "node", "", "[! a 0 Bin [! b 0 Bin Bin]]", ""),
	)
	const levels = 10
	x := read("[leaf two]")
	for range levels {
		x = let("t", constant("Bin"), x, app(constant("node"), variable(0), variable(0)))
	}
	// for each node 1 and the step of its TermLet, for each leaf 1 and what its number takes
	want := (1<<levels-1)*2 + 1<<levels*(1+4)
	q := canonAsk{askCanon, nil, x}
	got, work, code := q.ask(e, impl.MaxFuel)
	if nodes := (1<<levels-1)*3 + 1<<levels*7; code != 0 || len(got.Nodes) != nodes || work != want {
		t.Errorf("%d nodes, work %d, code %d", len(got.Nodes), work, code)
	}
	q.hold(t, e, want, told(got), want, 0)
	for _, fuel := range []int{want - 1, want / 2, want / 3, 1000} {
		q.hold(t, e, fuel, "", fuel, impl.CodeFuel)
	}
}

// Long terms and types are soon through.
func TestCanonOfLongTerms(t *testing.T) {
	t.Parallel()
	e := behind(convEnv(), declared(impl.KindAxiom, "plus", "", "[! a 0 Nat [! b 0 Nat Nat]]", ""))
	around := func(front string, count int, inside, back string) impl.Term {
		return read(strings.Repeat(front, count) + inside + strings.Repeat(back, count))
	}
	long := around("[! y 1 Nat ", 4900, "Nat", "]")
	// each function has a variable that stands in the innermost one
	const deep = 1900
	var sum strings.Builder
	sum.WriteString(strings.Repeat("[of [^ y 0 Nat ", deep))
	for i := range deep {
		sum.WriteString("[[plus " + written(variable(i)) + "] ")
	}
	sum.WriteString("#0" + strings.Repeat("]", 3*deep))
	for _, c := range []struct {
		what              string
		q                 canonAsk
		nodes, work, code int
	}{
		{"a variable of a long type", canonAsk{askCanon, []impl.Term{long}, variable(0)}, 2*4900 + 1 + 2*4900, 3*4900 + 1, 0},
		{"a long type", canonAsk{askCanonType, nil, long}, 9801, 9801, 0},
		{"a long number", canonAsk{askCanon, nil, around("[Nat.succ ", 9900, "Nat.zero", "]")}, 19801, 9901, 0},
		{"functions within each other", canonAsk{askCanon, nil, around("[of [^ y 2 Nat ", 4900, "#0", "]]")}, 19601, 4*4900 + 1, 0},
		{"with all their variables", canonAsk{askCanon, nil, read(sum.String())}, 8*deep + 1, 6*deep + 1, 0},
		{"many projections", canonAsk{askCanonType, []impl.Term{prop()}, around("[. Box 0 ", 19999, "#0", "]")}, 20000, 1, 0},
		// the type of the constructor has its second parameter twice
		{"a chain of pairs that is too long", canonAsk{askCanon, []impl.Term{around("[[Prod{0,0} Nat] ", 4000, "Nat", "]")}, variable(0)}, 0, 16001, impl.CodeSize},
		{"a long chain of pairs", canonAsk{askCanon, []impl.Term{around("[[Prod{0,0} Nat] ", 2000, "Nat", "]")}, variable(0)}, 0, impl.MaxFuel, impl.CodeFuel},
	} {
		start := time.Now()
		got, work, code := c.q.ask(e, impl.MaxFuel)
		if len(got.Nodes) != c.nodes || work != c.work || code != c.code {
			t.Errorf("%s: %d nodes, work %d, code %d, not %d, %d, %d", c.what, len(got.Nodes), work, code, c.nodes, c.work, c.code)
		}
		if took := time.Since(start); took > 20*time.Second {
			t.Errorf("%s took %v", c.what, took)
		}
	}
}

// More fuel does not change an answer: promise 11.
func TestCanonWithMoreFuel(t *testing.T) {
	t.Parallel()
	r := rand.New(rand.NewSource(138))
	e, ctx := canonEnv(), convContext()
	for range 60 {
		m := &checkMaker{r, checkTexts(), 30}
		q := canonAsk{r.Intn(2), ctx, m.make([]string{"aNat", "aPair", "aFun", "aType"}[r.Intn(4)], 1+r.Intn(3)).term()}
		got, work, code := q.ask(e, impl.MaxFuel)
		if code == impl.CodeFuel {
			continue
		}
		for _, fuel := range []int{work, work + 1, work + r.Intn(1000)} {
			q.hold(t, e, fuel, told(got), work, code)
		}
		for _, fuel := range []int{work - 1, work / 2, 0} {
			if fuel >= 0 && fuel < work {
				q.hold(t, e, fuel, "", fuel, impl.CodeFuel)
			}
		}
	}
}
