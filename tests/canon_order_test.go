package tests

import (
	"testing"

	"loop.example/g00005/impl"
)

// orderEnv has more than canonEnv: types that take steps for the arguments in
// front, as they stand there.
func orderEnv() impl.Env {
	return behind(canonEnv(),
		declared(impl.KindAxiom, "powed", "", "[! n 0 Nat [! f 0 [pow #0] Nat]]", ""),
		declared(impl.KindAxiom, "many", "", "[! n 0 Nat [pow #0]]", ""),
		declared(impl.KindDef, "zero", "", "Nat", "Nat.zero"),
		family("Held", "", 1, "[! n 0 Nat *1]", "Held.mk", "[! n 0 Nat [! f 0 [pow #0] [Held #1]]]"),
		family("Chain", "", 0, "*1", "Chain.mk", "[! n 0 Nat [! f 0 [pow #0] Chain]]"),
		// the levels of a field's type only are too great
		family("Late", "u", 0, "*1", "Late.mk", "[! n 0 Nat [! h 0 [[[Eq{max(u,u)} Nat] #0] #0] Late{u}]]"),
		family("Later", "u", 1, "[! n 0 Nat *1]", "Later.mk", "[! n 0 Nat [! m 0 Nat [! h 0 [[[Eq{max(u,u)} Nat] #0] #0] [Later{u} #2]]]]"),
	)
}

// Functions and types come ahead of what is asked of all other types: whether
// they are propositions.
func TestCanonAtShapesInOrder(t *testing.T) {
	e := orderEnv()
	most := longLevel(impl.MaxLevel)
	sort := universe(most)
	pairs := func(nodes int) impl.Term {
		return app(constant("Prod", longLevel(nodes), zero()), constant("Nat"), constant("Nat"))
	}
	arrow := func(to impl.Term) impl.Term { return pi("y", 1, constant("Nat"), to) }
	for i, c := range []struct {
		typ        impl.Term
		want       string
		work, code int
	}{
		// a proposition for all: a function
		{arrow(constant("True")), "[^ x 0 Nat ?0]", 3, 0},
		// no TermSort that is too great has a type, nor has what gives one
		{sort, "#0", 2, 0},
		{arrow(sort), "[^ x 0 Nat [#1 #0]]", 5, 0},
		{arrow(arrow(sort)), "[^ x 0 Nat [^ x 0 Nat [[#2 #1] #0]]]", 8, 0},
		// a structure is asked for its sort first
		{pairs(impl.MaxLevel - 2), "", 1, impl.CodeSize},
		{arrow(pairs(impl.MaxLevel - 2)), "", 3, impl.CodeSize},
		// and then for the types of its parameters ahead of those of its fields
		{constant("Late", longLevel(31)), "[[Late.mk{" + levelText(31) + "} [. Late 0 #0]] ?0]", 3, 0},
		{constant("Late", longLevel(33)), "", 2, impl.CodeSize},
		{app(constant("Later", longLevel(31)), constant("two")), "[[[Later.mk{" + levelText(31) + "} [Nat.succ [Nat.succ Nat.zero]]] [. Later 0 #0]] ?0]", 7, 0},
		{app(constant("Later", longLevel(33)), constant("two")), "", 1, impl.CodeSize},
	} {
		q := canonAsk{askCanon, []impl.Term{c.typ}, variable(0)}
		if y, work, code, _ := q.slowly(slowStepsIn(e), 100, true); y.told() != c.want || work != c.work || code != c.code {
			t.Errorf("case %d: by the slow way work %d, code %d\n%s", i, work, code, y.told())
		}
		q.hold(t, e, 100, c.want, c.work, c.code)
		q.hold(t, e, c.work, c.want, c.work, c.code)
		q.hold(t, e, c.work-1, "", c.work-1, impl.CodeFuel)
	}
}

// levelText is the text of a long level.
func levelText(nodes int) string {
	return impl.LevelText(longLevel(nodes))
}

// What stands in front is put into a type as it was: where it takes a step
// there, this one is counted again.
func TestCanonPutsWhatWas(t *testing.T) {
	e := orderEnv()
	ctx := contextOf("Nat", "[! n 0 Nat Nat]", "[Held one]", "[Held [Nat.succ Nat.zero]]", "Chain")
	holdCanonCases(t, askCanon, e, ctx, []typeCase{
		// the same type, in more steps or less
		{"[[powed [Nat.succ Nat.zero]] #3]", "[[powed [Nat.succ Nat.zero]] [^ x 0 Nat [#4 #0]]]", 12, 0},
		{"[[powed one] #3]", "[[powed [Nat.succ Nat.zero]] [^ x 0 Nat [#4 #0]]]", 14, 0},
		{"[[powed zero] #4]", "[[powed Nat.zero] #4]", 7, 0},
		{"[[powed Nat.zero] #4]", "[[powed Nat.zero] #4]", 5, 0},
		{"[[many one] zero]", "[[many [Nat.succ Nat.zero]] Nat.zero]", 17, 0},
		{"[[many [Nat.succ Nat.zero]] zero]", "[[many [Nat.succ Nat.zero]] Nat.zero]", 14, 0},
		// parameters and fields
		{"#2", "[[Held.mk [Nat.succ Nat.zero]] [^ x 0 Nat [[. Held 0 #3] #0]]]", 19, 0},
		{"#1", "[[Held.mk [Nat.succ Nat.zero]] [^ x 0 Nat [[. Held 0 #2] #0]]]", 16, 0},
		{"[[Chain.mk one] #3]", "[[Chain.mk [Nat.succ Nat.zero]] [^ x 0 Nat [#4 #0]]]", 17, 0},
		{"[[Chain.mk [Nat.succ Nat.zero]] #3]", "[[Chain.mk [Nat.succ Nat.zero]] [^ x 0 Nat [#4 #0]]]", 15, 0},
		{"#0", "[[Chain.mk [. Chain 0 #0]] [. Chain 1 #0]]", 5, 0},
	})
}

// Where several codes might come, the first one that is met does.
func TestCanonWithSeveralCodes(t *testing.T) {
	e, ctx := canonSizeEnv(), convContext()
	large := sized(10001)
	grows := app(lam("x", 0, prop(), app(variable(0), variable(0))), large)
	typed := func(typ impl.Term) impl.Term { return app(constant("any", zero()), typ) }
	nat := constant("Nat")
	eq := func(a, b impl.Term) impl.Term { return app(constant("Eq", zero()), nat, a, b) }
	pairOf := func(a, b impl.Term) impl.Term { return app(constant("Prod.mk", zero(), zero()), nat, nat, a, b) }
	pairs := func(a, b impl.Term) impl.Term { return app(constant("Prod", zero(), zero()), a, b) }
	great := app(lam("z", 0, prop(), variable(10)), sized(impl.MaxNodes-4))
	endless := read(omega)
	none := app(hole(0), hole(0))
	for i, c := range []struct {
		way        int
		x          impl.Term
		work, code int
	}{
		// the type, then its Whnf, then the term's
		{askCanon, app(hole(0), grows), 0, impl.CodeHole},
		{askCanon, typed(hole(0)), 1, impl.CodeHole},
		{askCanon, typed(grows), 2, impl.CodeSize},
		{askCanon, app(typed(pi("x", 0, nat, endless)), grows), 300, impl.CodeFuel},
		{askCanon, app(typed(pi("x", 0, nat, nat)), grows), 7, impl.CodeSize},
		// a TermPi's type, then the term under it, then what that gives
		{askCanon, typed(pi("x", 0, none, grows)), 2, impl.CodeHole},
		{askCanon, typed(pi("x", 0, grows, none)), 3, impl.CodeSize},
		{askCanon, typed(pi("x", 0, nat, none)), 3, impl.CodeHole},
		{askCanon, great, 2, impl.CodeSize},
		// a TermPi as a type
		{askCanonType, pi("x", 0, none, grows), 2, impl.CodeHole},
		{askCanonType, pi("x", 0, grows, none), 3, impl.CodeSize},
		{askCanonType, pi("x", 0, nat, none), 3, impl.CodeHole},
		// the arguments of a structure's type, then its fields
		{askCanon, typed(pairs(none, grows)), 3, impl.CodeHole},
		{askCanon, typed(pairs(grows, none)), 4, impl.CodeSize},
		{askCanon, typed(pairs(nat, none)), 5, impl.CodeHole},
		{askCanon, pairOf(none, grows), 7, impl.CodeHole},
		{askCanon, pairOf(grows, none), 8, impl.CodeSize},
		{askCanon, pairOf(nat, none), 9, impl.CodeHole},
		// the arguments of a spine
		{askCanonType, eq(none, grows), 4, impl.CodeHole},
		{askCanonType, eq(grows, none), 5, impl.CodeSize},
		{askCanonType, eq(nat, none), 5, impl.CodeHole},
		{askCanonType, app(hole(0), grows), 1, impl.CodeHole},
		{askCanonType, app(constant("some"), grows), 1, impl.CodeFun},
		{askCanonType, app(constant("Nat.succ"), grows, none), 3, impl.CodeSize},
		{askCanonType, app(constant("Nat.succ"), nat, grows), 2, impl.CodeFun},
		// an argument is there ahead of the next one: too great with what is in front
		{askCanonType, app(constant("tri"), lam("z", 0, sized(impl.MaxNodes-10), nat), app(constant("of"), variable(9)), hole(0)), 7, impl.CodeSize},
		// the kid of a projection, then the type of the projection, then the arguments
		{askCanonType, app(proj("Box", 0, none), grows), 1, impl.CodeHole},
		{askCanonType, app(proj("Box", 0, app(constant("Nat.succ"), none)), grows), 2, impl.CodeHole},
		{askCanonType, app(proj("Box", 0, variable(11)), grows), 1, impl.CodeProj},
	} {
		q := canonAsk{c.way, ctx, c.x}
		if _, work, code, _ := q.slowly(slowStepsIn(e), 300, true); work != c.work || code != c.code {
			t.Errorf("case %d: by the slow way work %d, code %d", i, work, code)
		}
		q.hold(t, e, 300, "", c.work, c.code)
		if c.work > 0 {
			q.hold(t, e, c.work-1, "", c.work-1, impl.CodeFuel)
		}
	}
}
