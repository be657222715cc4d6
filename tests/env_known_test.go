package tests

import (
	"strconv"
	"testing"

	"loop.example/g00005/impl"
)

func holdKnown(t *testing.T, what string, e impl.Env, x impl.Term, n int, want bool) {
	t.Helper()
	before := copyTerm(x)
	if impl.Known(e, x, n) != want {
		t.Errorf("%s for %d: known is %v", what, n, !want)
	}
	if !equalTerms(x, before) {
		t.Errorf("%s for %d: the term was changed", what, n)
	}
}

func TestKnownVariables(t *testing.T) {
	for _, e := range []impl.Env{{}, sampleEnv()} {
		for _, c := range []struct {
			text  string
			least int
		}{
			{"*0", 0}, {"?7", 0}, {"#0", 1}, {"#1", 2}, {"#19999", 20000}, {"#20000", 20001},
			{"[^ x 0 *0 #0]", 0}, {"[^ x 0 *0 #1]", 1}, {"[^ x 0 #0 #0]", 1}, {"[! x 0 *0 [! y 0 #0 #2]]", 1},
			{"[= x *0 #0 #0]", 1}, {"[= x *0 *0 #3]", 3}, {"[#4 #2]", 5}, {"[?0 ?1000000]", 0}, {"*max(anything,else)", 0},
		} {
			for _, n := range []int{-1 << 63, -2, -1, 0, 1, 2, 3, 4, 5, 6, 19999, 20000, 20001, 1 << 40, 1<<63 - 1} {
				holdKnown(t, c.text, e, read(c.text), n, n >= c.least)
			}
		}
	}
}

func TestKnownConstants(t *testing.T) {
	e := sampleEnv()
	for text, want := range map[string]bool{
		"Nat": true, "Nat.zero": true, "Nat.rec{u}": true, "Nat.rec{max(x,y)}": true, "[Nat.succ ?3]": true, "some": true, "two": true, "easy": true,
		"Eq{w}": true, "Eq.refl{w}": true, "Eq.rec{w}": true, "Quot{w}": true, "Quot.mk{w}": true, "Quot.lift{w,w}": true, "Quot.ind{w}": true, "Quot.sound{w}": true,
		"many{a,a,a,a,a,a}": true, "Six{a,b,c,d,e,f}": true, "Six.mk{a,b,c,d,e,f}": true, "Six.rec{a,b,c,d,e,f}": false, "Six.rec{a,b,c,d,e}": false, "Six.rec": false,
		"Nat{u}": false, "Nat.rec": false, "Nat.rec{u,v}": false, "Eq": false, "Eq{u,v}": false, "Quot.lift{u}": false, "Quot.mk": false, "Quot{u,v}": false,
		"many": false, "many{a,a,a,a,a}": false, "nope": false, "nope{u}": false, "Quot.rec": false, "Quot.eq": false, "some.rec": false,
		"[. Prod 0 ?1]": true, "[. Prod 1 Nat]": true, "[. Prod 2 Nat]": false, "[. Prod 3 Nat]": false, "[. Six 0 Nat]": true, "[. Six 1 Nat]": false,
		"[. Nat 0 Nat]": false, "[. Vec 0 Nat]": false, "[. Eq 0 Nat]": false, "[. Quot 0 Nat]": false, "[. two 0 Nat]": false, "[. Prod.mk 0 Nat]": false, "[. Prod.rec 0 Nat]": false, "[. nope 0 Nat]": false,
		"[. Prod 0 nope]": false, "[. Prod 0 [. Prod 2 Nat]]": false, "[nope Nat]": false, "[Nat nope]": false, "[^ x 0 nope Nat]": false, "[^ x 0 Nat nope]": false,
		"[! x 0 nope Nat]": false, "[! x 0 Nat nope]": false, "[= x nope Nat Nat]": false, "[= x Nat nope Nat]": false, "[= x Nat Nat nope]": false, "[= x Nat Nat [Nat Nat]]": true,
		"[? Nat]": false,
	} {
		x, code, _ := impl.ParseTerm([]byte(text))
		if (code != 0) != (text == "[? Nat]") {
			t.Fatalf("%s: code %d", text, code)
		}
		holdKnown(t, text, e, x, 0, want)
		holdKnown(t, text, e, x, 5, want)
		holdKnown(t, text, e, x, -1, false)
		holdKnown(t, text, behind(e, e.Decls[0]), x, 0, false)
		holdKnown(t, text, behind(e, impl.Decl{}), x, 5, false)
		holdKnown(t, text, impl.Env{}, x, 0, false)
	}
}

// Structures are families that are told by the document: not those in Prop,
// with indices, with fields of themselves, or with none or two constructors.
func TestKnownProjections(t *testing.T) {
	for _, c := range []struct {
		what   string
		d      impl.Decl
		fields int
	}{
		{"a structure", family("S", "", 0, "*1", "k", "[! a 0 *0 [! b 0 #0 [! c 0 *1 S]]]"), 3},
		{"parameters are no fields", family("S", "", 2, "[! A 0 *1 [! B 0 *1 *1]]", "k", "[! A 0 *1 [! B 0 *1 [! a 0 #1 [[S #2] #1]]]]"), 1},
		{"no field", family("S", "", 0, "*1", "k", "S"), 0},
		{"in Prop", family("S", "", 0, "*0", "k", "[! a 0 *0 S]"), 0},
		{"in Prop by its level", family("S", "u", 0, "*imax(u,0)", "k", "[! a 0 *0 S{u}]"), 0},
		{"an index", family("S", "", 0, "[! i 0 *1 *1]", "k", "[! a 0 *0 [S *0]]"), 0},
		{"a field of it", family("S", "", 0, "*1", "k", "[! a 0 *0 [! b 0 S S]]"), 0},
		{"a field of it under a function", family("S", "", 0, "*1", "k", "[! a 0 *0 [! b 0 [! x 0 *0 S] S]]"), 0},
		{"two constructors", family("S", "", 0, "*1", "k", "[! a 0 *0 S]", "l", "[! a 0 *0 S]"), 0},
		{"no constructor", family("S", "", 0, "*1"), 0},
		{"an axiom", point("S"), 0},
	} {
		e := envOf(point("a"), c.d)
		for n := range 5 {
			what := c.what + ", field " + strconv.Itoa(n)
			holdKnown(t, what, e, proj("S", n, prop()), 0, n < c.fields)
			holdKnown(t, what, e, proj("S", n, variable(0)), 0, false)
			holdKnown(t, what, e, proj("S", n, variable(0)), 1, n < c.fields)
			holdEnv(t, what, behind(e, declared(impl.KindDef, "d", "", "*1", "[. S "+strconv.Itoa(n)+" *0]")), n < c.fields)
		}
		holdKnown(t, c.what, e, proj("k", 0, prop()), 0, false)
		holdKnown(t, c.what, e, proj("S", impl.MaxNodes, prop()), 0, false)
	}
}

func TestKnownWrongTerms(t *testing.T) {
	for i, x := range wrongTerms() {
		for _, e := range []impl.Env{{}, sampleEnv(), behind(sampleEnv(), sampleEnv().Decls...)} {
			for _, n := range []int{-1, 0, 1, 1 << 40} {
				holdKnown(t, "wrong term "+strconv.Itoa(i), e, x, n, false)
			}
		}
	}
}
