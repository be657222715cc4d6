package tests

import (
	"testing"

	"loop.example/g00005/impl"
)

// canonSizeEnv has more than sizeConvEnv: what takes several numbers.
func canonSizeEnv() impl.Env {
	return behind(sizeConvEnv(),
		declared(impl.KindAxiom, "tri", "", "[! a 0 Nat [! b 0 Nat [! c 0 Nat *1]]]", ""),
		family("Sums", "", 2, "[! a 0 Nat [! b 0 Nat *1]]", "Sums.mk", "[! a 0 Nat [! b 0 Nat [[Sums #1] #0]]]"),
	)
}

// canonPad is a function that stands where a number should: as a head that makes
// no step it stays as it is, so that the slow way is soon through.
const canonPad = "[^ z 0 @ Nat]"

func canonSized(way int, text string) func(pad int) canonAsk {
	build := paddedWith(text, 1001)
	return func(pad int) canonAsk {
		return canonAsk{way, convContext(), build(pad)}
	}
}

// canonLimit is the greatest padding with which nothing is too great.
func canonLimit(w *slowSteps, make func(pad int) canonAsk) int {
	most := func(pad int) int {
		_, _, _, most := make(pad).slowly(w, impl.MaxFuel, true)
		return most
	}
	pad := 3001
	size := most(pad)
	grows := (most(pad+2) - size) / 2
	for range 4 {
		by := (impl.MaxNodes - size + 10*grows) / grows
		pad += by - 10
		if size = most(pad); by == 10 {
			break
		}
	}
	return pad
}

// holdCanonLimit says whether the greatest number of nodes was met, and one more.
func holdCanonLimit(t *testing.T, w *slowSteps, make func(pad int) canonAsk) (at, beyond bool) {
	t.Helper()
	last := canonLimit(w, make)
	for pad := last - 1; pad <= last+1; pad++ {
		q := make(pad)
		if !impl.TermOk(q.x) {
			t.Fatalf("%s with %d: too great itself", q.text(), pad)
		}
		y, work, code, most := q.slowly(w, impl.MaxFuel, true)
		at, beyond = at || most == impl.MaxNodes, beyond || most == impl.MaxNodes+1
		if (code == impl.CodeSize) != (pad > last) {
			t.Errorf("%s with %d: by the slow way code %d, %d nodes", q.text(), pad, code, most)
		}
		q.hold(t, w.e, impl.MaxFuel, y.told(), work, code)
		q.hold(t, w.e, work, y.told(), work, code)
		if work > 0 {
			q.hold(t, w.e, work-1, "", work-1, impl.CodeFuel)
		}
	}
	return at, beyond
}

func TestCanonToTheLimitOfNodes(t *testing.T) {
	t.Parallel()
	w := slowStepsIn(canonSizeEnv())
	sigma := "[any{1} [[Sigma{0,1} Nat] [^ n 0 Nat [[Vec{1} [[^ z 0 Nat Nat] @]] #0]]]]"
	for _, c := range []struct {
		way   int
		texts []string
	}{
		// applied to the variable of one more TermPi, or of two
		{askCanon, []string{"[[^ z 0 Nat #10] @]"}},
		{askCanon, []string{"[[^ z 0 Nat first] @]"}},
		// projections, and the types of fields
		{askCanon, []string{"[[^ z 0 Nat #8] @]"}},
		{askCanon, []string{sigma, "[[^ z 0 Nat " + sigma + "] two]", "[any{1} [[Sigma{0,1} Nat] [^ n 0 Nat [[Vec{1} [. Box 0 [[^ z 0 Nat Nat] @]]] #0]]]]"}},
		// the type behind an argument, and behind the last one
		{askCanonType, []string{"[[drop " + canonPad + "] #11]", "[[drop1 " + canonPad + "] #11]"}},
		{askCanonType, []string{"[twice " + canonPad + "]", "[twice1 " + canonPad + "]"}},
		{askCanonType, []string{"[[later " + canonPad + "] #11]", "[[later1 " + canonPad + "] #11]"}},
		// the type, which comes first
		{askCanon, []string{"[twice " + canonPad + "]", "[twice1 " + canonPad + "]"}},
		// steps: of a type and of a term
		{askCanonType, []string{"[[^ x 0 Nat [[Eq{1} #0] #0]] " + canonPad + "]", "[[^ x 0 Nat [. Box 0 [[Eq{1} #0] #0]]] " + canonPad + "]"}},
		{askCanon, []string{"[any{u} [[^ x 0 Nat [[Eq{1} #0] #0]] @]]", "[any{u} [[^ x 0 Nat [. Box 0 [[Eq{1} #0] #0]]] @]]"}},
		{askCanonType, []string{"[grown @]"}},
		// what is put together in the end: arguments, binders, projections and pairs
		{askCanonType, []string{"[[[Eq{1} Nat] " + canonPad + "] [of #9]]"}},
		{askCanonType, []string{"[[[Eq{1} Nat] [of #9]] " + canonPad + "]"}},
		{askCanonType, []string{"[[[tri " + canonPad + "] [of #9]] two]"}},
		{askCanonType, []string{"[[[tri [of #9]] two] " + canonPad + "]"}},
		{askCanonType, []string{"[! x 0 [#3 " + canonPad + "] [#4 [of #10]]]"}},
		{askCanonType, []string{"[! x 0 [#3 [of #9]] [#4 " + canonPad + "]]"}},
		{askCanonType, []string{"[. Box 0 [[[tri two] " + canonPad + "] [of #9]]]"}},
		{askCanonType, []string{"[of [^ y 0 Nat [[[tri " + canonPad + "] [of #10]] #0]]]"}},
		{askCanon, []string{"[^ y 0 [#3 " + canonPad + "] [of #10]]"}},
		{askCanon, []string{"[[[[Prod.mk{0,0} Nat] Nat] " + canonPad + "] [of #9]]"}},
		{askCanon, []string{"[[[[Prod.mk{0,0} Nat] Nat] [of #9]] " + canonPad + "]"}},
		{askCanon, []string{"[any{1} [[Sums " + canonPad + "] [of #9]]]"}},
		{askCanon, []string{"[any{1} [[Sums [of #9]] " + canonPad + "]]"}},
	} {
		met := [2]bool{}
		for _, text := range c.texts {
			at, beyond := holdCanonLimit(t, w, canonSized(c.way, text))
			met[0], met[1] = met[0] || at, met[1] || beyond
		}
		if !met[0] || !met[1] {
			t.Errorf("%s: the limit was not met: %v", c.texts[0], met)
		}
	}
}

// Where nothing is made, nothing is too great.
func TestCanonOfGreatTerms(t *testing.T) {
	t.Parallel()
	e, ctx := canonSizeEnv(), convContext()
	great := func(text string) impl.Term {
		x := paddedWith(text, 1)(1)
		return paddedWith(text, 1)(impl.MaxNodes - len(x.Nodes) + 1)
	}
	for _, c := range []struct {
		way        int
		x          impl.Term
		want       string
		work, code int
	}{
		// a proof, a term of a structure without fields, and a step that makes it small
		{askCanon, great("[[^ z 0 Nat #3] @]"), "?0", 1, 0},
		{askCanon, great("[[^ z 0 Nat #6] @]"), "Unit.star", 1, 0},
		{askCanon, great("[[^ z 0 Nat #12] @]"), "#11", 2, 0},
		{askCanon, great("[[^ z 0 Nat Nat] @]"), "Nat", 3, 0},
		{askCanonType, great("[[^ z 0 Nat #9] @]"), "#8", 2, 0},
		{askCanonType, great("[[^ z 0 Nat #10] @]"), "#9", 2, 0},
		// functions and pairs
		{askCanon, great("[[^ z 0 Nat #10] @]"), "", 2, impl.CodeSize},
		{askCanon, great("[[^ z 0 Nat #8] @]"), "", 5, impl.CodeSize},
		// what has the greatest size stays
		{askCanonType, great("[^ z 0 @ Nat]"), written(great("[^ z 0 @ Nat]")), 1, 0},
		{askCanonType, great("[Nat.succ [^ z 0 @ Nat]]"), written(great("[Nat.succ [^ z 0 @ Nat]]")), 2, 0},
	} {
		if len(c.x.Nodes) != impl.MaxNodes {
			t.Fatalf("%d nodes", len(c.x.Nodes))
		}
		q := canonAsk{c.way, ctx, c.x}
		q.hold(t, e, impl.MaxFuel, c.want, c.work, c.code)
		q.hold(t, e, c.work, c.want, c.work, c.code)
		q.hold(t, e, c.work-1, "", c.work-1, impl.CodeFuel)
	}
}

// Pairs within pairs: each form has the types of all that stand in it, and is soon
// too great.
func TestCanonOfPairsThatGrow(t *testing.T) {
	t.Parallel()
	e := canonEnv()
	typ := constant("Nat")
	count := 0
	for depth := range 12 {
		y, work, code := impl.Canon(e, []impl.Term{typ}, variable(0), impl.MaxFuel)
		switch {
		case code == 0:
			count++
			if want := formSize(depth, 0); len(y.Nodes) != want {
				t.Errorf("depth %d: %d nodes, not %d", depth, len(y.Nodes), want)
			}
		case code != impl.CodeSize || formSize(depth, 0) <= impl.MaxNodes:
			t.Errorf("depth %d: work %d, code %d", depth, work, code)
		}
		typ = app(constant("Prod", zero(), zero()), typ, typ)
	}
	if count != 9 {
		t.Errorf("%d have a form", count)
	}
}

// formSize is how many nodes a variable's form has, of pairs of pairs so deep, with
// so many projections around it.
func formSize(depth, around int) int {
	if depth == 0 {
		return 1 + around
	}
	typ := 1
	for range depth - 1 {
		typ = 2*typ + 3
	}
	return 1 + 4 + 2*typ + 2*formSize(depth-1, around+1)
}

// A variable whose number is too great when it is lifted for the last of many
// TermPis; it stands by itself, or in a binder. Where it is not, it is no function.
func TestCanonOfDeepVariables(t *testing.T) {
	t.Parallel()
	e, nat := convEnv(), constant("Nat")
	const around, count = 9980, 9821
	ctx := make([]impl.Term, impl.MaxCtx)
	for i := range ctx {
		ctx[i] = nat
	}
	ctx[len(ctx)-1] = pi("f", 0, telescopeOf(count, nat, nat), nat)
	for under, term := range []func(n int) impl.Term{
		variable,
		func(n int) impl.Term { return let("z", prop(), prop(), variable(n+1)) },
	} {
		for number := impl.MaxNodes - count - 2; number <= impl.MaxNodes-count; number++ {
			if number >= around+impl.MaxCtx {
				t.Fatalf("there is no variable %d", number)
			}
			work, code := 2*around+1+2*count, impl.CodeSize
			if number+under+count <= impl.MaxNodes {
				// what the last TermPi has within, and the step of the TermLet
				work, code = work+1+under, impl.CodeFun
			}
			q := canonAsk{askCanonType, ctx, telescopeOf(around, nat, app(variable(around), term(number)))}
			q.hold(t, e, impl.MaxFuel, "", work, code)
			q.hold(t, e, work-1, "", work-1, impl.CodeFuel)
		}
	}
}
