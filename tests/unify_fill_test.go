package tests

import (
	"strconv"
	"strings"
	"testing"

	"loop.example/g00005/impl"
)

// holdFill fails unless a term becomes this, or has this code.
func holdFill(t *testing.T, s impl.State, x impl.Term, want string, code int) {
	t.Helper()
	before, held := copyState(s), copyTerm(x)
	got, gotCode := impl.Fill(s, x)
	if told(got) != want || gotCode != code {
		t.Errorf("Fill %s: code %d, %s, not code %d, %s, in\n%s", short(told(x)), gotCode, short(told(got)), code, short(want), short(stateText(s)))
	}
	if !equalStates(before, s) || !equalTerms(held, x) {
		t.Errorf("Fill %s: an argument was changed", short(told(x)))
	}
}

func TestFill(t *testing.T) {
	s := stateOf(
		"Nat := two", "Nat", "Nat := [Nat.succ ?0]", "Fun := [^ x 0 Nat [[add #0] ?2]]", "Fun := [^ y 1 Nat [?1 #0]]",
		"Op := [^ x 0 Nat [^ y 0 Nat [[f #0] #1]]]", "Op := [^ x 0 Nat [?3 #0]]", "Op := ?5", "*1 := *_1", "Fun", "Nat := [?5 ?1]", "Nat := [[^ x 0 Nat #0] two]", "Nat := [?9 ?0]",
		"_", "_ := max(_0,_2)", "_ := 3", "_ := imax(_1,u)",
	)
	for _, c := range []struct {
		in, out string
	}{
		// what has no holes, or open ones
		{"two", "two"}, {"#7", "#7"}, {"[nut{u} [^ x 2 *u #0]]", "[nut{u} [^ x 2 *u #0]]"}, {"?1", "?1"}, {"[?9 #3]", "[?9 #3]"}, {"[[?1 two] ?9]", "[[?1 two] ?9]"},
		// within each other
		{"?0", "two"}, {"?2", "[Nat.succ two]"}, {"[[f ?2] ?1]", "[[f [Nat.succ two]] ?1]"}, {"[^ x 0 ?0 [! y 1 ?2 [= z ?0 ?1 ?2]]]", "[^ x 0 two [! y 1 [Nat.succ two] [= z two ?1 [Nat.succ two]]]]"},
		{"[. Prod 1 ?0]", "[. Prod 1 two]"},
		// fewer arguments than TermLams, as many, more
		{"?3", "[^ x 0 Nat [[add #0] [Nat.succ two]]]"}, {"[?3 #4]", "[[add #4] [Nat.succ two]]"}, {"[[?3 #4] #5]", "[[[add #4] [Nat.succ two]] #5]"},
		{"?5", "[^ x 0 Nat [^ y 0 Nat [[f #0] #1]]]"}, {"[?5 #4]", "[^ y 0 Nat [[f #0] #5]]"}, {"[[?5 #4] #2]", "[[f #2] #4]"}, {"[[[?5 #4] #2] #7]", "[[[f #2] #4] #7]"},
		{"[^ z 0 Nat [?5 #0]]", "[^ z 0 Nat [^ y 0 Nat [[f #0] #1]]]"},
		// arguments are filled, and no more is done with them than put
		{"[?3 ?0]", "[[add two] [Nat.succ two]]"}, {"[[?5 ?2] [?3 #0]]", "[[f [[add #0] [Nat.succ two]]] [Nat.succ two]]"}, {"[?9 ?0]", "[?9 two]"},
		{"[?4 ?0]", "[?1 two]"}, {"[?1 [?3 ?1]]", "[?1 [[add ?1] [Nat.succ two]]]"}, {"[?11 two]", "[[[^ x 0 Nat #0] two] two]"}, {"?11", "[[^ x 0 Nat #0] two]"},
		{"[[^ x 0 Nat #0] ?0]", "[[^ x 0 Nat #0] two]"}, {"[[?4 two] ?0]", "[[?1 two] two]"},
		// a Value that is no TermLam, but becomes one
		{"[?7 #1]", "[^ y 0 Nat [[f #0] #2]]"}, {"[[?7 #1] #0]", "[[f #0] #1]"}, {"?10", "[^ y 0 Nat [[f #0] ?1]]"}, {"[?10 #0]", "[[f #0] ?1]"}, {"[?6 #1]", "[[add #1] [Nat.succ two]]"},
		{"?12", "[?9 two]"}, {"[?12 #0]", "[[?9 two] #0]"},
		// levels
		{"*_0", "*_0"}, {"*_2", "*3"}, {"*_1", "*max(_0,3)"}, {"*_3+1", "*imax(max(_0,3),u)+1"}, {"[id{_2} *u]", "[id{3} *u]"}, {"[pair{_1,_0} ?8]", "[pair{max(_0,3),_0} *max(_0,3)]"},
		{"*max(_2,_2)", "*max(3,3)"}, {"*_00", "*_00"}, {"*_", "*_"}, {"*_02+1", "*_02+1"},
	} {
		holdFill(t, s, read(c.in), c.out, 0)
	}
	// the argument that is put may be a TermLam itself, which is given the next one
	twice := stateOf("Nat := [^ g 0 Fun #0]", "Nat := [^ g 0 Fun [#0 two]]")
	holdFill(t, twice, read("[[?0 [^ x 0 Nat [Nat.succ #0]]] #3]"), "[Nat.succ #3]", 0)
	holdFill(t, twice, read("[[?0 [^ x 0 Nat [^ y 0 Nat [f #1]]]] #3]"), "[^ y 0 Nat [f #4]]", 0)
	holdFill(t, twice, read("[[?0 #2] #3]"), "[#2 #3]", 0)
	holdFill(t, twice, read("[?1 [^ x 0 Nat [Nat.succ #0]]]"), "[[^ x 0 Nat [Nat.succ #0]] two]", 0)
}

func TestFillInput(t *testing.T) {
	for _, x := range wrongTerms() {
		if got, code := impl.Fill(stateOf("Nat := two"), x); code != impl.CodeInput || len(got.Nodes) > 0 {
			t.Errorf("code %d for a term that is not valid", code)
		}
	}
	for _, c := range []struct {
		in    string
		state []string
	}{
		{"?0", nil}, {"?1", texts("Nat")}, {"[f ?2]", texts("Nat", "Nat")}, {"?1000000", texts("Nat")}, {"[^ x 0 ?1 #0]", texts("Nat := two")},
		{"*_0", nil}, {"*_1", texts("_")}, {"[id{_2} Nat]", texts("_", "_ := 1")}, {"*max(u,_10)", texts("_")}, {"*_9999999999999999999999", texts("_")},
		// of the state
		{"two", texts("Nat := ?1")}, {"two", texts("?1")}, {"two", texts("Nat", "two = ?1")}, {"two", texts("?0 = two")}, {"two", texts("Nat := *_0")}, {"two", texts("*_0")},
		{"two", texts("_ := _1")}, {"two", texts("*_1 = *_0", "_")},
		// in itself
		{"two", texts("Nat := ?0")}, {"?1", texts("Nat := [f ?0]", "Nat := two")}, {"two", texts("Nat := ?1", "Nat := ?0")}, {"two", texts("Nat := [[^ x 0 Nat two] ?0]")},
		{"?0", texts("Nat := [?1 ?0]", "Fun := [^ x 0 Nat two]")}, {"two", texts("_ := _0")}, {"*_1", texts("_ := _0+1", "_ := 1")}, {"two", texts("_ := _1", "_ := max(0,_0)")},
	} {
		holdFill(t, stateOf(c.state...), read(c.in), "", impl.CodeInput)
	}
	// in a context of a pair
	s := impl.State{Later: []impl.Pair{{Ctx: contextOf("?0"), A: read("two"), B: read("two")}}}
	holdFill(t, s, read("two"), "", impl.CodeInput)
	for _, x := range wrongTerms() {
		s := stateOf("Nat", "Nat")
		s.Holes[1].Value = x
		want, code := "?1", 0
		if len(x.Nodes) > 0 {
			want, code = "", impl.CodeInput
		}
		holdFill(t, s, read("?1"), want, code)
	}
	// no environment is asked: of the terms that it does not put only the holes count
	holdFill(t, stateOf("Nut := [nut ?1]", "nut"), read("[no{u} ?0]"), "[no{u} [nut ?1]]", 0)
	holdFill(t, impl.State{Holes: []impl.Hole{{Value: read("two")}}}, read("?0"), "two", 0)
}

func TestFillSize(t *testing.T) {
	half := spread(impl.MaxNodes/4-1, hole(0))
	s := stateOf("Nat", "Nat")
	s.Holes[0].Value = app(constant("c"), constant("d"))
	// 5000 holes, and 4999 nodes that join them
	got, code := impl.Fill(s, half)
	if code != 0 || len(got.Nodes) != 3*5000+4999 {
		t.Errorf("code %d, %d nodes", code, len(got.Nodes))
	}
	s.Holes[0].Value = app(constant("c"), constant("d"), constant("e"))
	holdFill(t, s, half, "", impl.CodeSize)
	// just as much as there may be, and one node more
	most := impl.MaxNodes - 3
	s.Holes[0].Value = projs(most, constant("c"))
	holdFill(t, s, app(constant("c"), hole(0)), written(app(constant("c"), s.Holes[0].Value)), 0)
	s.Holes[0].Value = projs(most+1, constant("c"))
	holdFill(t, s, app(constant("c"), hole(0)), "", impl.CodeSize)
	// what is too great on the way, though it would not stay
	drop := lam("x", 0, constant("c"), constant("d"))
	s.Holes[1].Value = drop
	holdFill(t, s, app(hole(1), app(constant("c"), hole(0))), "", impl.CodeSize)
	holdFill(t, s, app(hole(1), hole(0)), "d", 0)
	twice := lam("x", 0, constant("c"), lam("y", 0, app(variable(0), variable(0)), constant("d")))
	s.Holes[1].Value = twice
	s.Holes[0].Value = projs(impl.MaxNodes/2, constant("c"))
	holdFill(t, s, app(hole(1), hole(0), constant("e")), "", impl.CodeSize)
	s.Holes[0].Value = projs(impl.MaxNodes/2-4, constant("c"))
	holdFill(t, s, app(hole(1), hole(0), constant("e")), "d", 0)
	s.Holes[1].Value = lam("x", 0, constant("c"), lam("y", 0, app(variable(0), variable(0)), variable(1)))
	holdFill(t, s, app(hole(1), hole(0), constant("e")), "", impl.CodeSize)
	s.Holes[1].Value = lam("x", 0, constant("c"), app(constant("d"), variable(0)))
	full := projs(impl.MaxNodes-3, constant("e"))
	holdFill(t, s, app(hole(1), full), written(app(constant("d"), full)), 0)
	s.Holes[1].Value = lam("x", 0, constant("c"), app(constant("d"), app(constant("d"), variable(0))))
	holdFill(t, s, app(hole(1), full), "", impl.CodeSize)
	// variables that would have too great a number
	s = stateOf("Nat := [^ x 0 Nat [^ y 0 Nat #1]]")
	top := variable(impl.MaxNodes)
	holdFill(t, s, app(hole(0), top, top), "", impl.CodeSize)
	holdFill(t, s, app(hole(0), variable(impl.MaxNodes-1), top), "#"+strconv.Itoa(impl.MaxNodes-1), 0)
	// levels
	s = stateOf("_ := _1+40", "_ := u+23", "_ := max(a,max(b,c))", "_ := max(d,max(e,f))")
	holdFill(t, s, read("*_0"), "*u+63", 0)
	holdFill(t, s, read("*_0+1"), "", impl.CodeSize)
	holdFill(t, s, read("*max(_2,_3)"), "*max(max(a,max(b,c)),max(d,max(e,f)))", 0)
	holdFill(t, s, read("*max(_2,max(_3,g))"), "", impl.CodeSize)
}

// Holes that stand in each other twice become great, but soon.
func TestFillDoubling(t *testing.T) {
	var s impl.State
	for i := range impl.MaxHoles {
		h := impl.Hole{Type: read("Nat")}
		level := impl.Level{}
		if i > 0 {
			h.Value = app(hole(i-1), hole(i-1))
			level, _ = impl.ParseLevel("max(_" + strconv.Itoa(i-1) + ",_" + strconv.Itoa(i-1) + ")")
		}
		s.Holes, s.Levels = append(s.Holes, h), append(s.Levels, level)
	}
	holdFill(t, s, hole(2), "[[?0 ?0] [?0 ?0]]", 0)
	if got, code := impl.Fill(s, hole(13)); code != 0 || len(got.Nodes) != 1<<14-1 {
		t.Errorf("code %d, %d nodes", code, len(got.Nodes))
	}
	holdFill(t, s, hole(14), "", impl.CodeSize)
	holdFill(t, s, hole(impl.MaxHoles-1), "", impl.CodeSize)
	holdFill(t, s, read("*_5"), "*"+strings.Repeat("max(", 5)+"_0"+levelTail(5)+"", 0)
	holdFill(t, s, read("*_6"), "", impl.CodeSize)
	holdFill(t, s, read("*_499"), "", impl.CodeSize)
}

// levelTail closes what TestFillDoubling opens.
func levelTail(depth int) string {
	full := "_0"
	for range depth {
		full = "max(" + full + "," + full + ")"
	}
	return full[len(strings.Repeat("max(", depth)+"_0"):]
}

// Values that are deep, in a long chain, and arguments that are many.
func TestFillDeep(t *testing.T) {
	var s impl.State
	for i := range 20 {
		h := impl.Hole{Type: read("Nat")}
		if i+1 < 20 {
			h.Value = projs(impl.MaxNodes-1, hole(i+1))
		}
		s.Holes = append(s.Holes, h)
	}
	holdFill(t, s, hole(0), "", impl.CodeSize)
	holdFill(t, s, hole(19), "?19", 0)
	// each of the TermLams takes an argument, and the last one is left
	count := impl.MaxNodes / 4
	var many impl.State
	many.Holes = []impl.Hole{{Type: read("Nat"), Value: lams(count, func(int) impl.Term { return prop() }, variable(count-1))}}
	var args []impl.Term
	for i := range count + 1 {
		args = append(args, variable(i))
	}
	x, _ := impl.Apply(hole(0), args)
	holdFill(t, many, x, "[#0 #"+strconv.Itoa(count)+"]", 0)
}
