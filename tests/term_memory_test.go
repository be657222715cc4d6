package tests

import (
	"math/rand"
	"slices"
	"testing"

	"loop.example/g00005/impl"
)

// richTerm has every kind of node, and lists of every kind in them.
func richTerm() impl.Term {
	c := constant("c.d", succ(param("u"), 2), pair(impl.LevelImax, param("v"), zero()))
	body := app(let("z", c, universe(param("u")), app(variable(0), hole(1), variable(2))), proj("P", 1, variable(1)), hole(1))
	return app(lam("x", 1, c, pi("y", 2, variable(0), body)), c, variable(0), hole(2))
}

func TestTermAnswersAreNewMemory(t *testing.T) {
	x, a := richTerm(), app(richTerm(), universe(param("w")))
	names, levels := []string{"u", "v"}, []impl.Level{pair(impl.LevelMax, param("a"), succ(zero(), 1)), param("b")}
	// The third is the first: an answer may not share with itself, either.
	terms := []impl.Term{x, a, x}
	kept = append(kept, x, a, names, levels, terms)
	given := levelSpans(termSpans(nil, x, a), levels)
	given = addSpan(given, terms)
	given = addSpan(given, names)
	hold := func(what string, code int, answer []span) {
		t.Helper()
		if code != 0 || len(answer) == 0 {
			t.Fatalf("%s: code %d", what, code)
		}
		holdApart(t, what, append(answer, given...))
	}
	got, code := impl.Lift(x, 0, 0)
	hold("Lift by 0", code, termSpans(nil, got))
	got, code = impl.Lift(x, 0, 3)
	hold("Lift", code, termSpans(nil, got))
	got, code = impl.Put(x, a)
	hold("Put", code, termSpans(nil, got))
	got, code = impl.Put(variable(0), a)
	hold("Put at the root", code, termSpans(nil, got))
	got, code = impl.Put(app(variable(0), variable(0)), x)
	hold("Put twice", code, termSpans(nil, got))
	got, code = impl.Put(x, x)
	hold("Put in itself", code, termSpans(nil, got))
	got, code = impl.PutHole(x, 1, a)
	hold("PutHole", code, termSpans(nil, got))
	got, code = impl.PutHole(x, 77, a)
	hold("PutHole of no hole", code, termSpans(nil, got))
	got, code = impl.PutParams(x, names, levels)
	hold("PutParams", code, termSpans(nil, got))
	got, code = impl.PutParams(x, []string{"q", "r"}, levels)
	hold("PutParams of no name", code, termSpans(nil, got))
	got, code = impl.PutParams(x, nil, nil)
	hold("PutParams of nothing", code, termSpans(nil, got))
	got, code = impl.Apply(x, terms)
	hold("Apply", code, termSpans(nil, got))
	got, code = impl.Apply(x, nil)
	hold("Apply to nothing", code, termSpans(nil, got))
	head, args := impl.Spine(app(x, x, a, x))
	hold("Spine", 0, addSpan(termSpans(termSpans(nil, head), args...), args))
	head, args = impl.Spine(x)
	hold("Spine of an argument", 0, addSpan(termSpans(termSpans(nil, head), args...), args))
	hold("HolesOf", 0, addSpan(nil, impl.HolesOf(a)))
	hold("LevelsOf", 0, addSpan(nil, impl.LevelsOf(a)))
}

// spoilTerm writes over all that an answer holds, and over what room it has
// left.
func spoilTerm(t impl.Term) {
	nodes := t.Nodes[:cap(t.Nodes)]
	for i := range nodes {
		for _, l := range nodes[i].Levels {
			spoil(l)
		}
		kids := nodes[i].Kids[:cap(nodes[i].Kids)]
		for k := range kids {
			kids[k] = -7
		}
		nodes[i] = impl.Node{K: 99, S: "spoilt"}
	}
}

func TestTermAnswersStandAlone(t *testing.T) {
	x, a := richTerm(), richTerm()
	first, _ := impl.Put(x, a)
	second, _ := impl.Put(x, a)
	spoilTerm(first)
	third, _ := impl.Put(x, a)
	if !equalTerms(x, richTerm()) || !equalTerms(a, richTerm()) || !equalTerms(second, third) || !impl.TermOk(third) {
		t.Errorf("an answer shares memory")
	}
	head, args := impl.Spine(app(prop(), x, x))
	spoilTerm(args[0])
	spoilTerm(head)
	if !equalTerms(x, richTerm()) || !equalTerms(args[1], x) {
		t.Errorf("a spine shares memory")
	}
}

// Nodes that are nearly alike stand beside each other in one term: none may
// come out as another one.
func TestAlikeNodesStayApart(t *testing.T) {
	u, v := param("u"), param("v")
	p := prop()
	x := p
	for _, leaf := range []impl.Term{
		variable(0), hole(0), variable(1), hole(1), constant("u"), constant("u1"), constant("c"),
		constant("c", param("u1")), constant("c", u, zero()), constant("c", param("u51")), constant("c", u, param("_1")),
		constant("c", u, v), constant("c", v, u), constant("c", param("uv")), constant("c", succ(u, 1)), constant("c", u, succ(zero(), 1)),
		constant("c", succ(zero(), 1), u), constant("c", pair(impl.LevelMax, u, v)), constant("c", pair(impl.LevelImax, u, v)),
		constant("c", u, u, pair(impl.LevelMax, v, u)), constant("c", u, pair(impl.LevelMax, pair(impl.LevelMax, u, v), u)),
		universe(u), universe(v), universe(succ(u, 1)), universe(pair(impl.LevelMax, u, u)),
		lam("x", 0, p, p), lam("x", 1, p, p), lam("y", 0, p, p), pi("x", 0, p, p), pi("x", 2, p, p), let("x", p, p, p), let("y", p, p, p),
		proj("x", 0, p), proj("x", 1, p), proj("y", 0, p), app(p, p), app(p, app(p, p)), app(p, p, p),
	} {
		x = app(x, leaf)
	}
	for _, term := range []impl.Term{x, app(x, x), lam("w", 0, x, x)} {
		holdLift(t, term, 0, 0)
		holdLift(t, term, 1, 2)
		holdPut(t, term, x)
		holdPutHole(t, term, 1, x)
		back, code := impl.PutParams(term, []string{"u"}, []impl.Level{u})
		if code != 0 || !equalTerms(back, term) {
			t.Errorf("PutParams: code %d", code)
		}
	}
}

// askAll calls every function of the chapter with an argument at each place.
func askAll(x, a impl.Term, names []string, levels []impl.Level, list []impl.Term) {
	impl.TermOk(x)
	impl.SameTerm(x, a)
	impl.Closed(x, 1)
	impl.Uses(x, 0)
	impl.Lift(x, 0, 1)
	impl.Put(x, a)
	impl.PutParams(x, names, levels)
	impl.PutHole(x, 1, a)
	impl.Spine(x)
	impl.Apply(x, list)
	impl.HolesOf(x)
	impl.LevelsOf(x)
}

func TestTermArgumentsStay(t *testing.T) {
	r := rand.New(rand.NewSource(41))
	terms := append(wrongTerms(), richTerm(), app(hole(3), hole(2), universe(param("v")), universe(param("u"))))
	for range 200 {
		terms = append(terms, randomTerm(r, 1+r.Intn(12), 0))
	}
	for _, x := range terms {
		for _, a := range []impl.Term{richTerm(), variable(-1), x} {
			oldX, oldA := copyTerm(x), copyTerm(a)
			names := []string{"u", "v"}
			levels := []impl.Level{pair(impl.LevelMax, param("v"), zero()), param("u")}
			list := []impl.Term{a, x, a}
			askAll(x, a, names, levels, list)
			if !equalTerms(x, oldX) || !equalTerms(a, oldA) || !equalLists(list, []impl.Term{oldA, oldX, oldA}) {
				t.Fatalf("%v was changed", oldX)
			}
			if !slices.Equal(names, []string{"u", "v"}) || !sameNodes(levels[0], pair(impl.LevelMax, param("v"), zero())) || !sameNodes(levels[1], param("u")) {
				t.Fatalf("names or levels were changed")
			}
		}
	}
}

// Any nodes at all are answered for, and no answer is a term that is not valid.
func TestTermFunctionsOfAnyNodes(t *testing.T) {
	r := rand.New(rand.NewSource(42))
	anyNumber := func() int {
		return []int{-1, 0, 1, 2, 3, 9, impl.MaxNodes, impl.MaxNodes + 1, impl.MaxHole, 1 << 62, -1 << 63}[r.Intn(11)]
	}
	for range 20000 {
		var x impl.Term
		for range r.Intn(5) {
			n := impl.Node{K: r.Intn(11), S: []string{"", "a", "a.b"}[r.Intn(3)]}
			if r.Intn(2) == 0 {
				n.N, n.M = anyNumber(), r.Intn(4)
			}
			for range r.Intn(4) {
				n.Kids = append(n.Kids, r.Intn(6)-1)
			}
			if r.Intn(3) == 0 {
				n.Levels = slices.Repeat([]impl.Level{{Nodes: []impl.LNode{{K: r.Intn(7)}}}}, r.Intn(3))
			}
			x.Nodes = append(x.Nodes, n)
		}
		impl.Closed(x, anyNumber())
		impl.Uses(x, anyNumber())
		lifted, code := impl.Lift(x, anyNumber(), anyNumber())
		if impl.TermOk(lifted) != (code == 0) {
			t.Fatalf("%v: code %d", x, code)
		}
		put, code := impl.PutHole(x, anyNumber(), x)
		if impl.TermOk(put) != (code == 0) || impl.TermOk(x) != impl.SameTerm(x, x) {
			t.Fatalf("%v: code %d", x, code)
		}
		askAll(x, x, []string{"a"}, []impl.Level{zero()}, []impl.Term{x, x})
	}
}
