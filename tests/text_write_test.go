package tests

import (
	"math/rand"
	"slices"
	"strings"
	"testing"

	"loop.example/g00005/impl"
)

func TestTextLimit(t *testing.T) {
	if impl.MaxText != 400000 {
		t.Errorf("%d", impl.MaxText)
	}
}

func TestTermTextOfEachNode(t *testing.T) {
	u, v := param("u"), param("v")
	x, y, z := variable(0), constant("A"), hole(3)
	for _, c := range []struct {
		x    impl.Term
		want string
	}{
		{variable(0), "#0"},
		{variable(7), "#7"},
		{variable(impl.MaxNodes), "#20000"},
		{prop(), "*0"},
		{universe(succ(zero(), 1)), "*1"},
		{universe(u), "*u"},
		{universe(succ(pair(impl.LevelMax, u, succ(zero(), 1)), 2)), "*max(u,1)+2"},
		{universe(pair(impl.LevelImax, succ(u, 3), v)), "*imax(u+3,v)"},
		{constant("Nat.succ"), "Nat.succ"},
		{constant("_"), "_"},
		{constant("c", zero()), "c{0}"},
		{constant("c", u), "c{u}"},
		{constant("c.d'", succ(u, 1), pair(impl.LevelMax, u, v)), "c.d'{u+1,max(u,v)}"},
		{constant("c", slices.Repeat([]impl.Level{u}, impl.MaxParams)...), "c{u,u,u,u,u,u}"},
		{app(x, y), "[#0 A]"},
		{app(x, y, z), "[[#0 A] ?3]"},
		{app(x, app(y, z)), "[#0 [A ?3]]"},
		{lam("x", 0, x, y), "[^ x 0 #0 A]"},
		{lam("y'", 1, y, x), "[^ y' 1 A #0]"},
		{lam("_", 2, y, x), "[^ _ 2 A #0]"},
		{pi("x", 0, x, y), "[! x 0 #0 A]"},
		{pi("max", 1, x, y), "[! max 1 #0 A]"},
		{pi("x", 2, x, lam("x", 1, y, z)), "[! x 2 #0 [^ x 1 A ?3]]"},
		{let("x", x, y, z), "[= x #0 A ?3]"},
		{let("x", app(x, y), pi("y", 0, x, x), let("z", y, z, x)), "[= x [#0 A] [! y 0 #0 #0] [= z A ?3 #0]]"},
		{proj("P", 0, x), "[. P 0 #0]"},
		{proj("P.q", 12, app(x, y)), "[. P.q 12 [#0 A]]"},
		{proj("P", impl.MaxNodes, proj("P", 1, x)), "[. P 20000 [. P 1 #0]]"},
		{hole(0), "?0"},
		{hole(impl.MaxHole), "?1000000"},
	} {
		holdText(t, c.x, c.want)
		holdRead(t, c.want, c.x)
		if written(c.x) != c.want {
			t.Errorf("the tests write %q for %q", written(c.x), c.want)
		}
	}
}

func TestTermTextOfWrongTerms(t *testing.T) {
	for _, x := range wrongTerms() {
		holdNoText(t, "a term that is not valid", x)
	}
	for _, l := range wrongLevels() {
		holdNoText(t, "a wrong level", universe(l))
		holdNoText(t, "a wrong level", constant("c", l))
	}
	holdNoText(t, "two levels", join(impl.Node{K: impl.TermSort, Levels: []impl.Level{zero(), zero()}}))
	holdNoText(t, "too many levels", constant("c", slices.Repeat([]impl.Level{zero()}, impl.MaxParams+1)...))
	holdNoText(t, "a let with an M", join(impl.Node{K: impl.TermLet, S: "x", M: 1}, prop(), prop(), prop()))
	holdNoText(t, "a point in a variable's name", lam("a.b", 0, prop(), prop()))
}

func TestTermTextLength(t *testing.T) {
	full := fullTerm(t, impl.MaxText)
	text, ok := impl.TermText(full)
	if !ok || len(text) != impl.MaxText {
		t.Fatalf("%d bytes and %v", len(text), ok)
	}
	holdRead(t, string(text), full)
	for _, over := range []int{1, 2, 100} {
		holdNoText(t, "too long", fullTerm(t, impl.MaxText+over))
	}
	almost := fullTerm(t, impl.MaxText-1)
	if text, ok := impl.TermText(almost); !ok || len(text) != impl.MaxText-1 {
		t.Errorf("%d bytes and %v", len(text), ok)
	}
}

// The last byte of these texts may be the one too many, whatever it closes.
func TestTermTextLengthByForms(t *testing.T) {
	for _, around := range []func(x impl.Term) impl.Term{
		func(x impl.Term) impl.Term { return app(x, variable(1)) },
		func(x impl.Term) impl.Term { return app(variable(1), x) },
		func(x impl.Term) impl.Term { return app(x, constant("c", zero())) },
		func(x impl.Term) impl.Term { return app(x, universe(param("u"))) },
		func(x impl.Term) impl.Term { return lam("x", 2, x, prop()) },
		func(x impl.Term) impl.Term { return lam("x", 2, prop(), x) },
		func(x impl.Term) impl.Term { return pi("x", 2, prop(), x) },
		func(x impl.Term) impl.Term { return let("x", prop(), prop(), x) },
		func(x impl.Term) impl.Term { return proj("P", 1, x) },
	} {
		more := len(written(around(prop()))) - len(written(prop()))
		text, ok := impl.TermText(around(fullTerm(t, impl.MaxText-more)))
		if !ok || len(text) != impl.MaxText {
			t.Errorf("%d bytes and %v", len(text), ok)
		}
		holdNoText(t, "too long", around(fullTerm(t, impl.MaxText-more+1)))
	}
}

// A text of all this would have more than 100 times MaxText bytes.
func TestTermTextFarTooLong(t *testing.T) {
	t.Parallel()
	name := func(i int) string { return strings.Repeat(string(rune('a'+i)), impl.MaxName) }
	wide := chain(impl.LevelMax, name(0), name(1), name(2), name(3), name(4), name(5))
	for len(wide.Nodes) < impl.MaxLevel-2 {
		wide = pair(impl.LevelImax, wide, param(name(0)))
	}
	c := constant(name(0), slices.Repeat([]impl.Level{wide}, impl.MaxParams)...)
	huge := spread(impl.MaxNodes/2-1, c)
	if !impl.TermOk(huge) || len(written(c))*impl.MaxNodes/2 < 100*impl.MaxText {
		t.Fatalf("the term should be valid and great")
	}
	holdNoText(t, "far too long", huge)
	holdText(t, c, written(c))
	holdRead(t, written(c), c)
}

func TestTermTextAndBack(t *testing.T) {
	terms := append(smallTerms(4, leavesForTexts()[:4]...), smallTerms(3, leavesForTexts()...)...)
	terms = append(terms, richTerm(), app(richTerm(), richTerm()))
	r := rand.New(rand.NewSource(51))
	for range 4000 {
		terms = append(terms, randomTerm(r, 1+r.Intn(40), 0))
	}
	readings := map[string]impl.Term{}
	for _, x := range terms {
		want := written(x)
		holdText(t, x, want)
		holdRead(t, want, x)
		if y, ok := readings[want]; ok && !equalTerms(x, y) {
			t.Fatalf("%q is the text of two terms", want)
		}
		readings[want] = x
	}
	if t.Failed() || len(readings) < 4000 {
		t.Fatalf("%d texts", len(readings))
	}
}

func TestTermTextDeepAndWide(t *testing.T) {
	last := impl.MaxNodes - 1
	for _, c := range []struct {
		x    impl.Term
		want string
	}{
		{projs(last, hole(1)), projsText(last, "?1")},
		{spread(last/2, constant("c")), spreadText(last/2, "c")},
		{projs(1, spread(last/2, constant("c"))), projsText(1, spreadText(last/2, "c"))},
		{lams(last/2, func(int) impl.Term { return variable(1) }, prop()), strings.Repeat("[^ x 0 #1 ", last/2) + "*0" + strings.Repeat("]", last/2)},
	} {
		holdText(t, c.x, c.want)
		holdRead(t, c.want, c.x)
	}
}
