package tests

import (
	"cmp"
	"math/rand"
	"slices"
	"testing"
	"unsafe"

	"loop.example/g00005/impl"
)

// The builders write nodes by hand, kids first.
func join(node impl.Node, kids ...impl.Term) impl.Term {
	var nodes []impl.Node
	node.Kids = nil
	for _, kid := range kids {
		nodes = append(nodes, copyTermNodes(kid, len(nodes))...)
		node.Kids = append(node.Kids, len(nodes)-1)
	}
	return impl.Term{Nodes: append(nodes, node)}
}

func copyTermNodes(t impl.Term, by int) []impl.Node {
	var nodes []impl.Node
	for _, n := range t.Nodes {
		n.Kids = slices.Clone(n.Kids)
		for i := range n.Kids {
			n.Kids[i] += by
		}
		n.Levels = slices.Clone(n.Levels)
		for i := range n.Levels {
			n.Levels[i] = copyLevel(n.Levels[i])
		}
		nodes = append(nodes, n)
	}
	return nodes
}

func copyTerm(t impl.Term) impl.Term {
	return impl.Term{Nodes: copyTermNodes(t, 0)}
}

func variable(n int) impl.Term {
	return join(impl.Node{K: impl.TermVar, N: n})
}

func universe(l impl.Level) impl.Term {
	return join(impl.Node{K: impl.TermSort, Levels: []impl.Level{copyLevel(l)}})
}

func prop() impl.Term {
	return universe(zero())
}

func constant(name string, levels ...impl.Level) impl.Term {
	node := impl.Node{K: impl.TermConst, S: name}
	for _, l := range levels {
		node.Levels = append(node.Levels, copyLevel(l))
	}
	return join(node)
}

func hole(n int) impl.Term {
	return join(impl.Node{K: impl.TermHole, N: n})
}

func app(f impl.Term, args ...impl.Term) impl.Term {
	for _, a := range args {
		f = join(impl.Node{K: impl.TermApp}, f, a)
	}
	return f
}

func lam(s string, m int, a, b impl.Term) impl.Term {
	return join(impl.Node{K: impl.TermLam, S: s, M: m}, a, b)
}

func pi(s string, m int, a, b impl.Term) impl.Term {
	return join(impl.Node{K: impl.TermPi, S: s, M: m}, a, b)
}

func let(s string, a, v, b impl.Term) impl.Term {
	return join(impl.Node{K: impl.TermLet, S: s}, a, v, b)
}

func proj(s string, n int, t impl.Term) impl.Term {
	return join(impl.Node{K: impl.TermProj, S: s, N: n}, t)
}

// projs is so many TermProjs around a term.
func projs(times int, t impl.Term) impl.Term {
	nodes := copyTermNodes(t, 0)
	for range times {
		nodes = append(nodes, impl.Node{K: impl.TermProj, S: "P", Kids: []int{len(nodes) - 1}})
	}
	return impl.Term{Nodes: nodes}
}

// lams is so many TermLams, of a type of one node for each depth, around a
// term.
func lams(times int, typ func(depth int) impl.Term, body impl.Term) impl.Term {
	var nodes []impl.Node
	for i := range times {
		nodes = append(nodes, copyTermNodes(typ(i), 0)...)
	}
	nodes = append(nodes, copyTermNodes(body, times)...)
	for i := range times {
		nodes = append(nodes, impl.Node{K: impl.TermLam, S: "x", Kids: []int{times - 1 - i, len(nodes) - 1}})
	}
	return impl.Term{Nodes: nodes}
}

// spread is a term applied to itself so many times.
func spread(times int, t impl.Term) impl.Term {
	nodes := copyTermNodes(t, 0)
	for range times {
		root := len(nodes) - 1
		nodes = append(nodes, copyTermNodes(t, len(nodes))...)
		nodes = append(nodes, impl.Node{K: impl.TermApp, Kids: []int{root, len(nodes) - 1}})
	}
	return impl.Term{Nodes: nodes}
}

// equalTerms holds every field against each other, also those of binders.
func equalTerms(a, b impl.Term) bool {
	return slices.EqualFunc(a.Nodes, b.Nodes, func(x, y impl.Node) bool {
		return x.K == y.K && x.N == y.N && x.M == y.M && x.S == y.S && slices.Equal(x.Kids, y.Kids) && slices.EqualFunc(x.Levels, y.Levels, sameNodes)
	})
}

func equalLists(a, b []impl.Term) bool {
	return slices.EqualFunc(a, b, equalTerms)
}

// tree is a term by its parts: the slow functions walk it with the words of the
// document, and know nothing of the program's ways.
type tree struct {
	node impl.Node
	kids []tree
}

func treeOf(t impl.Term) tree {
	var parts []tree
	for _, n := range t.Nodes {
		part := tree{node: n}
		for _, kid := range n.Kids {
			part.kids = append(part.kids, parts[kid])
		}
		parts = append(parts, part)
	}
	return parts[len(parts)-1]
}

func (x tree) term() impl.Term {
	var nodes []impl.Node
	var add func(x tree) int
	add = func(x tree) int {
		node := x.node
		node.Kids = nil
		for _, kid := range x.kids {
			node.Kids = append(node.Kids, add(kid))
		}
		node.Levels = slices.Clone(node.Levels)
		for i := range node.Levels {
			node.Levels[i] = copyLevel(node.Levels[i])
		}
		nodes = append(nodes, node)
		return len(nodes) - 1
	}
	add(x)
	return impl.Term{Nodes: nodes}
}

// inside is how many binders of x stand around its kid, beside those around x.
func (x tree) inside(kid int) int {
	switch x.node.K {
	case impl.TermLam, impl.TermPi:
		return kid
	case impl.TermLet:
		return kid / 2
	}
	return 0
}

// changed has other trees for its leaves, each told how many binders stand
// around.
func (x tree) changed(under int, leaf func(x tree, under int) tree) tree {
	if len(x.kids) == 0 {
		return leaf(x, under)
	}
	y := tree{node: x.node}
	for i, kid := range x.kids {
		y.kids = append(y.kids, kid.changed(under+x.inside(i), leaf))
	}
	return y
}

func (x tree) lifted(from, by int) tree {
	return x.changed(0, func(x tree, under int) tree {
		if x.node.K == impl.TermVar && x.node.N >= from+under {
			x.node.N += by
		}
		return x
	})
}

func (x tree) put(a tree) tree {
	return x.changed(0, func(x tree, under int) tree {
		switch {
		case x.node.K != impl.TermVar || x.node.N < under:
			return x
		case x.node.N == under:
			return a.lifted(0, under)
		}
		x.node.N--
		return x
	})
}

func (x tree) putHole(hole int, a tree) tree {
	return x.changed(0, func(x tree, under int) tree {
		if x.node.K == impl.TermHole && x.node.N == hole {
			return a.lifted(0, under)
		}
		return x
	})
}

// numbers gives how often each variable that is not bound stands in x.
func (x tree) numbers() map[int]int {
	counts := map[int]int{}
	x.changed(0, func(x tree, under int) tree {
		if x.node.K == impl.TermVar && x.node.N >= under {
			counts[x.node.N-under]++
		}
		return x
	})
	return counts
}

// wrap puts binders of every kind around a term: one for each letter.
func wrap(kinds string, t impl.Term) impl.Term {
	for i := range len(kinds) {
		switch kinds[i] {
		case 'l':
			t = lam("x", 0, prop(), t)
		case 'p':
			t = pi("y", 1, prop(), t)
		default:
			t = let("z", prop(), constant("c"), t)
		}
	}
	return t
}

// smallTerms are all terms of at most so many nodes over these leaves.
func smallTerms(nodes int, leaves ...impl.Term) []impl.Term {
	bySize := [][]impl.Term{nil, leaves}
	for size := 2; size <= nodes; size++ {
		var here []impl.Term
		for _, t := range bySize[size-1] {
			here = append(here, proj("P", 1, t))
		}
		for left := 1; left < size-1; left++ {
			for _, a := range bySize[left] {
				for _, b := range bySize[size-1-left] {
					here = append(here, app(a, b), lam("x", 0, a, b), pi("y", 1, a, b))
				}
			}
		}
		for left := 1; left < size-2; left++ {
			for middle := 1; left+middle < size-1; middle++ {
				for _, a := range bySize[left] {
					for _, v := range bySize[middle] {
						for _, b := range bySize[size-1-left-middle] {
							here = append(here, let("z", a, v, b))
						}
					}
				}
			}
		}
		bySize = append(bySize, here)
	}
	return slices.Concat(bySize...)
}

// randomTerm has at most so many nodes; its variables are those around and a
// few more.
func randomTerm(r *rand.Rand, nodes, under int) impl.Term {
	if nodes < 2 || r.Intn(8) == 0 {
		return randomLeaf(r, under)
	}
	kind := 1 + r.Intn(9)
	if kind == impl.TermProj || nodes == 2 {
		return proj([]string{"P", "P.q"}[r.Intn(2)], r.Intn(3), randomTerm(r, nodes-1, under))
	}
	left := 1 + r.Intn(nodes-2)
	a := randomTerm(r, left, under)
	name := []string{"x", "y", "max"}[r.Intn(3)]
	switch kind {
	case impl.TermLam:
		return lam(name, r.Intn(3), a, randomTerm(r, nodes-1-left, under+1))
	case impl.TermPi:
		return pi(name, r.Intn(3), a, randomTerm(r, nodes-1-left, under+1))
	case impl.TermLet:
		if nodes-1-left > 1 {
			middle := 1 + r.Intn(nodes-2-left)
			return let(name, a, randomTerm(r, middle, under), randomTerm(r, nodes-1-left-middle, under+1))
		}
	}
	return app(a, randomTerm(r, nodes-1-left, under))
}

func randomLeaf(r *rand.Rand, under int) impl.Term {
	switch r.Intn(6) {
	case 0:
		return universe(randomLevel(r, 4, []string{"u", "v"}))
	case 1:
		name := []string{"c", "d.e"}[r.Intn(2)]
		if r.Intn(2) == 0 {
			return constant(name)
		}
		return constant(name, randomLevel(r, 3, []string{"u"}), randomLevel(r, 3, []string{"v"}))
	case 2:
		return hole(r.Intn(3))
	}
	return variable(r.Intn(under + 3))
}

// wrongTerms are terms that are not valid, each for one fault.
func wrongTerms() []impl.Term {
	wide := spread(impl.MaxNodes/2, prop())
	return []impl.Term{
		{},
		{Nodes: []impl.Node{}},
		{Nodes: []impl.Node{{}}},
		variable(-1),
		variable(impl.MaxNodes + 1),
		join(impl.Node{K: impl.TermSort}),
		universe(impl.Level{}),
		constant("a."),
		constant("c", succ(zero(), impl.MaxLevel)),
		app(variable(0), hole(-1)),
		lam("", 0, prop(), prop()),
		pi("x", 3, prop(), prop()),
		let("x.y", prop(), prop(), prop()),
		proj("1", 0, prop()),
		{Nodes: []impl.Node{{K: impl.TermVar}, {K: impl.TermVar}}},
		{Nodes: []impl.Node{{K: impl.TermVar}, {K: impl.TermApp, Kids: []int{0, 0}}}},
		{Nodes: []impl.Node{{K: impl.TermVar}, {K: impl.TermProj, S: "P", Kids: []int{1 << 62}}}},
		wide,
	}
}

// kept holds lists where they are: a stretch of memory tells nothing any more
// once it has been moved or given to others.
var kept []any

// span is the stretch of memory of one list, with the room that it has left.
type span struct {
	from, to uintptr
}

func addSpan[T any](spans []span, list []T) []span {
	var one T
	size := uintptr(cap(list)) * unsafe.Sizeof(one)
	if size == 0 {
		return spans
	}
	from := uintptr(unsafe.Pointer(unsafe.SliceData(list)))
	return append(spans, span{from, from + size})
}

func levelSpans(spans []span, levels []impl.Level) []span {
	spans = addSpan(spans, levels)
	for _, l := range levels {
		spans = addSpan(spans, l.Nodes)
		for _, n := range l.Nodes {
			spans = addSpan(spans, n.Kids)
		}
	}
	return spans
}

func termSpans(spans []span, terms ...impl.Term) []span {
	for _, t := range terms {
		spans = addSpan(spans, t.Nodes)
		for _, n := range t.Nodes {
			spans = addSpan(spans, n.Kids)
			spans = levelSpans(spans, n.Levels)
		}
	}
	return spans
}

// holdApart fails when two of the stretches share memory.
func holdApart(t *testing.T, what string, spans []span) {
	t.Helper()
	slices.SortFunc(spans, func(a, b span) int { return cmp.Compare(a.from, b.from) })
	for i := 1; i < len(spans); i++ {
		if spans[i].from < spans[i-1].to {
			t.Fatalf("%s: two lists share memory", what)
		}
	}
}
