package tests

import (
	"math"
	"math/rand"
	"slices"
	"strings"
	"testing"

	"loop.example/g00005/impl"
)

func TestTermConstants(t *testing.T) {
	kinds := []int{impl.TermVar, impl.TermSort, impl.TermConst, impl.TermApp, impl.TermLam, impl.TermPi, impl.TermLet, impl.TermProj, impl.TermHole}
	if !slices.Equal(kinds, []int{1, 2, 3, 4, 5, 6, 7, 8, 9}) {
		t.Errorf("kinds %v", kinds)
	}
	if impl.MaxNodes != 20000 || impl.MaxHole != 1000000 {
		t.Errorf("limits %d %d", impl.MaxNodes, impl.MaxHole)
	}
}

// plainTerms has one valid term with each kind of node as its root, whose kids
// are leaves.
func plainTerms() []impl.Term {
	p := prop()
	return []impl.Term{variable(0), p, constant("c"), app(p, p), lam("x", 0, p, p), pi("x", 0, p, p), let("x", p, p, p), proj("P", 0, p), hole(0)}
}

func TestTermOkPlain(t *testing.T) {
	for i, x := range plainTerms() {
		if x.Nodes[len(x.Nodes)-1].K != i+1 || !impl.TermOk(x) {
			t.Errorf("kind %d", i+1)
		}
	}
	for i, x := range wrongTerms() {
		if impl.TermOk(x) {
			t.Errorf("%d is not valid", i)
		}
	}
}

// rule is a row of the document's table.
type rule struct {
	numbers, modes, least, most int
	names                       string
}

func rules() map[int]rule {
	return map[int]rule{
		impl.TermVar:   {numbers: impl.MaxNodes},
		impl.TermSort:  {least: 1, most: 1},
		impl.TermConst: {most: impl.MaxParams, names: "name"},
		impl.TermApp:   {},
		impl.TermLam:   {modes: 2, names: "short"},
		impl.TermPi:    {modes: 2, names: "short"},
		impl.TermLet:   {names: "short"},
		impl.TermProj:  {numbers: impl.MaxNodes, names: "name"},
		impl.TermHole:  {numbers: impl.MaxHole},
	}
}

func TestTermOkNumbersAndModes(t *testing.T) {
	numbers := []int{math.MinInt, -1, 0, 1, 2, 3, impl.MaxNodes - 1, impl.MaxNodes, impl.MaxNodes + 1, impl.MaxHole - 1, impl.MaxHole, impl.MaxHole + 1, math.MaxInt}
	for _, x := range plainTerms() {
		root := &x.Nodes[len(x.Nodes)-1]
		r := rules()[root.K]
		for _, n := range numbers {
			root.N, root.M = n, 0
			if impl.TermOk(x) != (n >= 0 && n <= r.numbers) {
				t.Errorf("kind %d with N %d", root.K, n)
			}
			root.N, root.M = 0, n
			if impl.TermOk(x) != (n >= 0 && n <= r.modes) {
				t.Errorf("kind %d with M %d", root.K, n)
			}
		}
	}
}

func TestTermOkNames(t *testing.T) {
	names := []string{"", "a", "max", "imax", "_", "a'", "1", "a b", ".", "a.", ".a", "a..b", "a.b", "a.1", "é", "a\x00", strings.Repeat("a", impl.MaxName), strings.Repeat("a", impl.MaxName+1), "a." + strings.Repeat("b", impl.MaxName-2), "a." + strings.Repeat("b", impl.MaxName-1)}
	for _, x := range plainTerms() {
		root := &x.Nodes[len(x.Nodes)-1]
		for _, name := range names {
			root.S = name
			want := name == ""
			switch rules()[root.K].names {
			case "name":
				want = impl.NameOk(name)
			case "short":
				want = impl.ShortOk(name)
			}
			if impl.TermOk(x) != want {
				t.Errorf("kind %d with S %q", root.K, name)
			}
		}
	}
}

func TestTermOkLevels(t *testing.T) {
	six := chain(impl.LevelMax, "a", "b", "c", "d", "e", "f")
	for _, x := range plainTerms() {
		root := &x.Nodes[len(x.Nodes)-1]
		r := rules()[root.K]
		for count := range impl.MaxParams + 3 {
			fits := count >= r.least && count <= r.most
			for _, l := range []impl.Level{zero(), six, succ(param("u"), impl.MaxLevel-1)} {
				root.Levels = slices.Repeat([]impl.Level{l}, count)
				if impl.TermOk(x) != fits {
					t.Errorf("kind %d with %d levels", root.K, count)
				}
			}
			for _, wrong := range append(wrongLevels(), succ(zero(), impl.MaxLevel), pair(impl.LevelMax, six, param("g"))) {
				for at := range count {
					root.Levels = slices.Repeat([]impl.Level{zero()}, count)
					root.Levels[at] = wrong
					if impl.TermOk(x) {
						t.Errorf("kind %d with a level that is not valid at %d of %d", root.K, at, count)
					}
				}
			}
		}
		root.Levels = slices.Repeat([]impl.Level{zero()}, r.least)
		root.Kids = append([]int{}, root.Kids...)
		if !impl.TermOk(x) {
			t.Errorf("kind %d with empty lists that are not nil", root.K)
		}
	}
	// Each level has few parameters, all of them together more.
	many := constant("c", six, chain(impl.LevelMax, "g", "h", "i", "j", "k", "l"))
	if !impl.TermOk(app(many, universe(chain(impl.LevelImax, "m", "n", "o", "p", "q", "r")))) {
		t.Errorf("a term may have any number of parameters")
	}
}

func TestTermOkKinds(t *testing.T) {
	for _, kind := range []int{math.MinInt, -4, -1, 0, 10, 4 + 256, math.MaxInt} {
		for _, x := range plainTerms() {
			x.Nodes[len(x.Nodes)-1].K = kind
			if impl.TermOk(x) {
				t.Errorf("kind %d", kind)
			}
		}
		x := app(variable(0), variable(0))
		x.Nodes[0].K = kind
		if impl.TermOk(x) {
			t.Errorf("kind %d within", kind)
		}
	}
}

func TestTermOkKids(t *testing.T) {
	leaves := []impl.Node{{K: impl.TermVar}, {K: impl.TermHole}, {K: impl.TermConst, S: "c"}, {K: impl.TermVar, N: 7}}
	lists := [][]int{nil, {-1}, {0}, {1}, {2}, {3}, {4}, {math.MaxInt}, {math.MinInt}}
	for a := -1; a < 5; a++ {
		for b := -1; b < 5; b++ {
			lists = append(lists, []int{a, b})
			for c := -1; c < 5; c++ {
				lists = append(lists, []int{a, b, c}, []int{a, b, c, 3})
			}
		}
	}
	wanted := map[int]int{impl.TermApp: 2, impl.TermLam: 2, impl.TermPi: 2, impl.TermLet: 3, impl.TermProj: 1}
	for _, plain := range plainTerms() {
		root := plain.Nodes[len(plain.Nodes)-1]
		for count := range 5 {
			for _, kids := range lists {
				root.Kids = kids
				x := impl.Term{Nodes: append(slices.Clone(leaves[:count]), root)}
				var all []int
				for i := range count {
					all = append(all, i)
				}
				if impl.TermOk(x) != (count == wanted[root.K] && slices.Equal(kids, all)) {
					t.Errorf("kind %d behind %d leaves with the kids %v", root.K, count, kids)
				}
			}
		}
	}
}

// validByTable holds the nodes against the table, and their order by the
// stretches: the last kid is just in front, each earlier one just in front of
// the next one's stretch.
func validByTable(x impl.Term) bool {
	if len(x.Nodes) < 1 || len(x.Nodes) > impl.MaxNodes {
		return false
	}
	counts := map[int]int{impl.TermApp: 2, impl.TermLam: 2, impl.TermPi: 2, impl.TermLet: 3, impl.TermProj: 1}
	var begins []int
	for i, n := range x.Nodes {
		r, ok := rules()[n.K]
		if !ok || len(n.Kids) != counts[n.K] || n.N < 0 || n.N > r.numbers || n.M < 0 || n.M > r.modes || len(n.Levels) < r.least || len(n.Levels) > r.most {
			return false
		}
		if r.names == "" && n.S != "" || r.names == "name" && !impl.NameOk(n.S) || r.names == "short" && !impl.ShortOk(n.S) {
			return false
		}
		for _, l := range n.Levels {
			if !impl.LevelOk(l) {
				return false
			}
		}
		begin := i
		for _, kid := range slices.Backward(n.Kids) {
			if kid != begin-1 || kid < 0 {
				return false
			}
			begin = begins[kid]
		}
		begins = append(begins, begin)
	}
	return begins[len(begins)-1] == 0
}

func TestTermOkChanged(t *testing.T) {
	r := rand.New(rand.NewSource(31))
	valid := 0
	for range 60000 {
		x := randomTerm(r, 1+r.Intn(9), 0)
		if !impl.TermOk(x) {
			t.Fatalf("%v is valid", x)
		}
		at := r.Intn(len(x.Nodes))
		n := &x.Nodes[at]
		switch r.Intn(7) {
		case 0:
			n.K = r.Intn(11)
		case 1:
			n.N = r.Intn(4) - 1
		case 2:
			n.M = r.Intn(5) - 1
		case 3:
			n.S = []string{"", "a", "a.b", "a."}[r.Intn(4)]
		case 4:
			n.Levels = slices.Repeat([]impl.Level{zero()}, r.Intn(8))
		case 5:
			if len(n.Kids) > 0 {
				n.Kids[r.Intn(len(n.Kids))] += r.Intn(5) - 2
			}
		case 6:
			x.Nodes = slices.Delete(x.Nodes, at, at+1)
		}
		if impl.TermOk(x) != validByTable(x) {
			t.Fatalf("%v", x)
		}
		if impl.TermOk(x) {
			valid++
		}
	}
	if valid < 1000 {
		t.Errorf("only %d of the changed terms were valid", valid)
	}
}

func TestTermOkNodes(t *testing.T) {
	t.Parallel()
	for _, c := range []struct {
		x     impl.Term
		nodes int
		ok    bool
	}{
		{impl.Term{}, 0, false},
		{prop(), 1, true},
		{projs(impl.MaxNodes-1, prop()), impl.MaxNodes, true},
		{projs(impl.MaxNodes, prop()), impl.MaxNodes + 1, false},
		{projs(1, spread(impl.MaxNodes/2-1, hole(1))), impl.MaxNodes, true},
		{spread(impl.MaxNodes/2, hole(1)), impl.MaxNodes + 1, false},
		{lams(impl.MaxNodes/2-1, variable, projs(1, variable(3))), impl.MaxNodes, true},
		{lams(impl.MaxNodes/2, variable, variable(3)), impl.MaxNodes + 1, false},
		{impl.Term{Nodes: slices.Repeat([]impl.Node{{K: impl.TermVar}}, impl.MaxNodes)}, impl.MaxNodes, false},
		{impl.Term{Nodes: slices.Repeat([]impl.Node{{K: impl.TermVar}}, 100*impl.MaxNodes)}, 100 * impl.MaxNodes, false},
	} {
		if len(c.x.Nodes) != c.nodes || impl.TermOk(c.x) != c.ok {
			t.Errorf("%d nodes: %v", c.nodes, !c.ok)
		}
	}
}
