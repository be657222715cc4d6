package tests

import (
	"strconv"
	"testing"

	"loop.example/g00005/impl"
)

// succs is so many `Nat.succ` around a term.
func succs(times int, x impl.Term) impl.Term {
	var nodes []impl.Node
	for range times {
		nodes = append(nodes, impl.Node{K: impl.TermConst, S: "Nat.succ"})
	}
	nodes = append(nodes, copyTermNodes(x, times)...)
	for i := range times {
		nodes = append(nodes, impl.Node{K: impl.TermApp, Kids: []int{times - 1 - i, len(nodes) - 1}})
	}
	return impl.Term{Nodes: nodes}
}

func natAt(int) impl.Term {
	return constant("Nat")
}

// What is made on the way must be valid, too.
func TestUnifySize(t *testing.T) {
	e := unifyEnv()
	great := succs(impl.MaxNodes/2-1, constant("Nat.zero"))
	s := impl.State{Holes: []impl.Hole{{Type: read("Nat"), Value: great}, {Type: read("Nat")}, {Type: read("Fun")}}, Levels: []impl.Level{succ(zero(), 63)}}
	for _, c := range []struct {
		ctx  []string
		a, b string
		work int
	}{
		// filled
		{nil, "[f ?0]", "[f ?1]", 1}, {nil, "[[f ?1] ?0]", "two", 1}, {nil, "two", "[[f ?0] ?1]", 1}, {texts("[[Vec{1} Nat] ?0]"), "two", "two", 1},
		{nil, "*_0+1", "*1", 1}, {nil, "*1", "*_0+1", 1}, {texts("*_0+1"), "two", "two", 1},
		// by steps
		{nil, "[[^ x 0 Nat [[f #0] [[f #0] ?1]]] ?0]", "two", 1},
		{nil, "[[^ x 0 Nat [[f #0] #0]] [[f ?1] ?0]]", "two", 1},
	} {
		unifyAsk{s, contextOf(c.ctx...), read(c.a), read(c.b)}.hold(t, e, 100, impl.State{}, c.work, impl.CodeSize)
	}
	// the type of the hole
	s.Holes[2].Type = read("[! n 0 Nat [[Vec{1} Nat] [Nat.succ ?0]]]")
	unifyAsk{s, contextOf("Nat"), read("[?2 #0]"), read("two")}.hold(t, e, 100, impl.State{}, 1, impl.CodeSize)
	s.Holes[2].Type = read("Fun")
	// ?0 as it is, and with the TermLams of its type around
	want := copyState(s)
	want.Holes[1].Value = great
	unifyAsk{s, nil, read("?0"), read("?1")}.hold(t, e, 100, want, 2, 0)
	unifyAsk{s, contextOf("Nat"), read("[?2 #0]"), read("?0")}.hold(t, e, 100, impl.State{}, 2, impl.CodeSize)
	s.Holes[0].Value = succs(impl.MaxNodes/2-2, constant("Nat.zero"))
	if _, _, code := impl.Unify(e, s, contextOf("Nat"), read("[?2 #0]"), read("?0"), 100); code != 0 {
		t.Errorf("code %d for a Value that fits", code)
	}
}

// A TermLam beside something that can take no more.
func TestUnifySizeOfBodies(t *testing.T) {
	e := unifyEnv()
	long := app(constant("f"), succs(impl.MaxNodes/2-4, constant("Nat.zero")))
	s := stateOf("Fun")
	q := unifyAsk{s, nil, read("[^ x 0 Nat [?0 #0]]"), long}
	if _, _, code := q.ask(e, 100); code != 0 {
		t.Errorf("code %d for what fits", code)
	}
	q.b = app(constant("f"), succs(impl.MaxNodes/2-2, constant("Nat.zero")))
	q.hold(t, e, 100, impl.State{}, 1, impl.CodeSize)
	q.a, q.b = q.b, q.a
	q.hold(t, e, 100, impl.State{}, 1, impl.CodeSize)
}

// The type of a Value that is found may be too great, or its levels.
func TestUnifySizeOfTypes(t *testing.T) {
	e := unifyEnv()
	unifyAsk{stateOf("*63"), nil, hole(0), universe(succ(zero(), 63))}.hold(t, e, 100, impl.State{}, 1, impl.CodeSize)
	unifyAsk{stateOf("*63"), nil, hole(0), universe(succ(zero(), 62))}.hold(t, e, 100, stateOf("*63 := *62"), 2, 0)
	// each type is that of the next hole: their levels grow
	var s impl.State
	for i := range 100 {
		s.Holes = append(s.Holes, impl.Hole{Type: hole((i + 1) % 100)})
	}
	unifyAsk{s, nil, hole(0), read("two")}.hold(t, e, 100, impl.State{}, 65, impl.CodeSize)
}

// Deep terms and long ones, and binders around what is put off.
func TestUnifyDeep(t *testing.T) {
	e := unifyEnv()
	depth := 9000
	unifyAsk{stateOf("Nat"), nil, succs(depth, hole(0)), succs(depth, constant("two"))}.hold(t, e, impl.MaxFuel, stateOf("Nat := two"), depth+2, 0)
	unifyAsk{stateOf("Nat"), nil, succs(depth+1, hole(0)), succs(depth, constant("Nat.zero"))}.hold(t, e, impl.MaxFuel, impl.State{}, depth+1, impl.CodeUnify)
	unifyAsk{stateOf("Nat"), nil, lams(depth, natAt, hole(0)), lams(depth, natAt, constant("two"))}.hold(t, e, impl.MaxFuel, stateOf("Nat := two"), 2*depth+2, 0)
	later := app(hole(0), constant("two"))
	unifyAsk{stateOf("Fun"), nil, lams(depth, natAt, later), lams(depth, natAt, variable(5))}.hold(t, e, impl.MaxFuel, impl.State{}, 2*depth+1, impl.CodeSize)
	for _, count := range []int{impl.MaxCtx, impl.MaxCtx + 1} {
		want, code := stateOf("Fun"), impl.CodeSize
		p := impl.Pair{A: later, B: variable(5)}
		for range count {
			p.Ctx = append(p.Ctx, constant("Nat"))
		}
		want.Later = []impl.Pair{p}
		if count == impl.MaxCtx {
			code = 0
		} else {
			want = impl.State{}
		}
		q := unifyAsk{stateOf("Fun"), nil, lams(count, natAt, later), lams(count, natAt, variable(5))}
		q.hold(t, e, impl.MaxFuel, want, 2*count+1, code)
	}
	// without end
	a := read("[[^ x 0 Nat [[f ?0] [#0 #0]]] [^ x 0 Nat [[f ?0] [#0 #0]]]]")
	b := read("[[^ x 0 Nat [[f ?0] [[^ z 0 Nat #0] [#0 #0]]]] [^ x 0 Nat [[f ?0] [[^ z 0 Nat #0] [#0 #0]]]]]")
	unifyAsk{stateOf("Nat"), nil, a, b}.hold(t, e, impl.MaxFuel, impl.State{}, impl.MaxFuel, impl.CodeFuel)
	once, again := read("[[f ?0] ?1]"), read("[[f one] two]")
	for range 40 {
		once, again = app(constant("const"), once, hole(1)), app(constant("const"), again, constant("three"))
	}
	unifyAsk{stateOf("Nat", "Nat"), nil, once, again}.hold(t, e, impl.MaxFuel, impl.State{}, impl.MaxFuel, impl.CodeFuel)
}

// All holes of a state, one after the other, in a context that has them, too.
func TestUnifyManyHoles(t *testing.T) {
	e := behind(unifyEnv(), declared(impl.KindAxiom, "c", "", "Nat", ""))
	var s, want impl.State
	var ctx []impl.Term
	a, b := constant("c"), constant("c")
	for i := range impl.MaxHoles / 2 {
		s.Holes = append(s.Holes, impl.Hole{Type: read("*1")}, impl.Hole{Type: read("Nat")})
		want.Holes = append(want.Holes, impl.Hole{Type: read("*1"), Value: read("Nat")}, impl.Hole{Type: read("Nat"), Value: read("two")})
		a, b = app(a, hole(2*i), hole(2*i+1)), app(b, constant("Nat"), constant("two"))
		if i < impl.MaxCtx {
			ctx = append(ctx, app(read("[Prod{0,0} Nat]"), pi("x", 0, hole(2*i), hole(2*((i+1)%20)))))
		}
	}
	unifyAsk{s, ctx, a, b}.hold(t, e, impl.MaxFuel, want, 1+2*impl.MaxHoles, 0)
	last := len(ctx) - 1
	unifyAsk{s, ctx, app(a, read("[. Prod 0 #0]")), app(b, read("#"+strconv.Itoa(last)))}.hold(t, e, impl.MaxFuel, impl.State{}, 2*impl.MaxHoles+3, impl.CodeUnify)
}

// Levels that were small enough until another one was set.
func TestUnifySizeOfLevels(t *testing.T) {
	e := unifyEnv()
	s := stateOf("_")
	for _, c := range []struct{ a, b string }{
		{"[[poly{_0,_0+1} Nat] Nat]", "[[poly{63,1} Nat] Nat]"},
		{"[[poly{63,1} Nat] Nat]", "[[poly{_0,_0+1} Nat] Nat]"},
	} {
		unifyAsk{s, nil, read(c.a), read(c.b)}.hold(t, e, 100, impl.State{}, 1, impl.CodeSize)
	}
	for range impl.MaxHoles {
		s.Later = append(s.Later, impl.Pair{A: read("two"), B: read("two")})
	}
	unifyAsk{s, nil, read("[[poly{max(_0,1),1} Nat] Nat]"), read("[[poly{2,1} Nat] Nat]")}.hold(t, e, 100, impl.State{}, 1, impl.CodeSize)
}
