package tests

import (
	"math/rand"
	"slices"
	"strconv"
	"testing"

	"loop.example/g00005/impl"
)

func TestSameTermFields(t *testing.T) {
	p, q := prop(), variable(0)
	u, v := param("u"), param("v")
	uu := pair(impl.LevelMax, u, u)
	for i, c := range []struct {
		a, b impl.Term
		same bool
	}{
		{lam("x", 0, p, q), lam("y", 0, p, q), true},
		{lam("x", 0, p, q), lam("x", 1, p, q), true},
		{pi("x", 2, p, q), pi("max", 0, p, q), true},
		{let("x", p, p, q), let("y", p, p, q), true},
		{lam("x", 0, p, q), pi("x", 0, p, q), false},
		{lam("x", 0, p, q), app(p, q), false},
		{lam("x", 0, p, q), lam("x", 0, q, p), false},
		{let("x", p, p, q), let("x", p, q, p), false},
		{let("x", p, p, q), let("x", q, p, p), false},
		{app(p, q), app(q, p), false},
		{app(app(p, q), q), app(p, app(q, q)), false},
		{variable(0), variable(1), false},
		{hole(0), hole(1), false},
		{hole(0), variable(0), false},
		{constant("c"), constant("d"), false},
		{constant("c"), constant("c", zero()), false},
		{constant("c", u), constant("c", u, u), false},
		{constant("c", u), constant("c", uu), true},
		{constant("c", u, v), constant("c", v, u), false},
		{constant("c", u, v), constant("c", uu, v), true},
		{constant("c", u), constant("c", v), false},
		{universe(u), universe(uu), true},
		{universe(u), universe(v), false},
		{universe(u), universe(succ(u, 1)), false},
		{universe(pair(impl.LevelImax, u, zero())), prop(), true},
		{universe(pair(impl.LevelImax, u, v)), universe(pair(impl.LevelMax, u, v)), false},
		{proj("P", 0, p), proj("P", 1, p), false},
		{proj("P", 0, p), proj("Q", 0, p), false},
		{proj("P", 0, p), proj("P", 0, q), false},
		{proj("P", 0, p), p, false},
		{proj("P", 0, lam("x", 0, universe(u), q)), proj("P", 0, lam("y", 2, universe(uu), q)), true},
	} {
		if impl.SameTerm(c.a, c.b) != c.same || impl.SameTerm(c.b, c.a) != c.same {
			t.Errorf("%d: %v", i, !c.same)
		}
	}
}

func TestSameTermWrong(t *testing.T) {
	for i, x := range wrongTerms() {
		if impl.SameTerm(x, x) || impl.SameTerm(x, prop()) || impl.SameTerm(prop(), x) || impl.SameTerm(x, copyTerm(x)) {
			t.Errorf("%d is the same as nothing", i)
		}
	}
	a, b := lam("x", 0, prop(), prop()), lam("x.y", 0, prop(), prop())
	if impl.SameTerm(a, b) || impl.SameTerm(b, a) {
		t.Errorf("a binder's S must be a short name")
	}
	b = lam("x", 3, prop(), prop())
	if impl.SameTerm(a, b) || impl.SameTerm(b, a) {
		t.Errorf("a binder's M must be in range")
	}
}

// classOf is a text that all terms that are the same have, and no others: a
// level is in it by its numbers.
func classOf(x tree, ways []map[string]int) string {
	text := strconv.Itoa(x.node.K) + ":" + strconv.Itoa(x.node.N)
	if x.node.K < impl.TermLam || x.node.K > impl.TermLet {
		text += x.node.S
	}
	for _, l := range x.node.Levels {
		text += "{"
		for _, way := range ways {
			text += strconv.Itoa(numberOf(l, way)) + " "
		}
	}
	for _, kid := range x.kids {
		text += "(" + classOf(kid, ways) + ")"
	}
	return text
}

func TestSameTermIsAnEquivalence(t *testing.T) {
	r := rand.New(rand.NewSource(32))
	ways := allValues([]string{"u", "v"}, []int{0, 1, 2, 9})
	var terms []impl.Term
	var classes []string
	for range 150 {
		x := randomTerm(r, 1+r.Intn(4), 0)
		y := copyTerm(x)
		for i := range y.Nodes {
			if n := &y.Nodes[i]; n.K >= impl.TermLam && n.K <= impl.TermPi {
				n.S, n.M = "other", (n.M+1)%3
			}
			for k, l := range y.Nodes[i].Levels {
				y.Nodes[i].Levels[k] = pair(impl.LevelMax, l, l)
			}
		}
		terms = append(terms, x, y)
	}
	for _, x := range terms {
		classes = append(classes, classOf(treeOf(x), ways))
	}
	same := make([][]bool, len(terms))
	pairs := 0
	for i, x := range terms {
		for k, y := range terms {
			same[i] = append(same[i], impl.SameTerm(x, y))
			if same[i][k] != (classes[i] == classes[k]) {
				t.Fatalf("%v and %v", x, y)
			}
			if same[i][k] && i != k {
				pairs++
			}
		}
	}
	for i := range terms {
		for k := range terms {
			for j := range terms {
				if !same[i][i] || same[i][k] != same[k][i] || same[i][k] && same[k][j] && !same[i][j] {
					t.Fatalf("%d, %d and %d", i, k, j)
				}
			}
		}
	}
	if pairs < 300 {
		t.Errorf("only %d pairs", pairs)
	}
}

func TestSameTermOfSmallTerms(t *testing.T) {
	all := smallTerms(4, variable(0), hole(0))
	for i, x := range all {
		for k, y := range all {
			if impl.SameTerm(x, y) != (i == k) {
				t.Fatalf("%v and %v", x, y)
			}
		}
	}
}

func TestSameTermGreat(t *testing.T) {
	u := param("u")
	uu := pair(impl.LevelImax, u, u)
	x := projs(1, spread(impl.MaxNodes/2-1, universe(u)))
	y := projs(1, spread(impl.MaxNodes/2-1, universe(uu)))
	if !impl.SameTerm(x, y) || !impl.SameTerm(y, x) {
		t.Errorf("greatest terms")
	}
	at := slices.IndexFunc(y.Nodes, func(n impl.Node) bool { return n.K == impl.TermSort })
	y.Nodes[at].Levels[0] = zero()
	if impl.SameTerm(x, y) {
		t.Errorf("they differ in the first node")
	}
}
