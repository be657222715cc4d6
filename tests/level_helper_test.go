package tests

import (
	"math/rand"
	"slices"

	"loop.example/g00005/impl"
)

// The builders write nodes by hand, so that levels of the tests do not hang on
// ParseLevel.
func zero() impl.Level {
	return impl.Level{Nodes: []impl.LNode{{K: impl.LevelZero}}}
}

func param(name string) impl.Level {
	return impl.Level{Nodes: []impl.LNode{{K: impl.LevelParam, S: name}}}
}

func succ(l impl.Level, times int) impl.Level {
	nodes := copyNodes(l, 0)
	for range times {
		nodes = append(nodes, impl.LNode{K: impl.LevelSucc, Kids: []int{len(nodes) - 1}})
	}
	return impl.Level{Nodes: nodes}
}

func pair(kind int, a, b impl.Level) impl.Level {
	nodes := append(copyNodes(a, 0), copyNodes(b, len(a.Nodes))...)
	node := impl.LNode{K: kind, Kids: []int{len(a.Nodes) - 1, len(nodes) - 1}}
	return impl.Level{Nodes: append(nodes, node)}
}

func copyNodes(l impl.Level, by int) []impl.LNode {
	var nodes []impl.LNode
	for _, n := range l.Nodes {
		kids := slices.Clone(n.Kids)
		for i := range kids {
			kids[i] += by
		}
		nodes = append(nodes, impl.LNode{K: n.K, S: n.S, Kids: kids})
	}
	return nodes
}

func copyLevel(l impl.Level) impl.Level {
	return impl.Level{Nodes: copyNodes(l, 0)}
}

func sameNodes(a, b impl.Level) bool {
	return slices.EqualFunc(a.Nodes, b.Nodes, func(x, y impl.LNode) bool {
		return x.K == y.K && x.S == y.S && slices.Equal(x.Kids, y.Kids)
	})
}

// numberOf follows the table of the document, node by node.
func numberOf(l impl.Level, values map[string]int) int {
	var numbers []int
	for _, n := range l.Nodes {
		at := func(i int) int { return numbers[n.Kids[i]] }
		v := 0
		switch n.K {
		case impl.LevelSucc:
			v = at(0) + 1
		case impl.LevelMax:
			v = max(at(0), at(1))
		case impl.LevelImax:
			if at(1) != 0 {
				v = max(at(0), at(1))
			}
		case impl.LevelParam:
			v = values[n.S]
		}
		numbers = append(numbers, v)
	}
	return numbers[len(numbers)-1]
}

// smallLevels are all levels of at most so many nodes over these parameters.
func smallLevels(nodes int, names ...string) []impl.Level {
	bySize := [][]impl.Level{nil, {zero()}}
	for _, name := range names {
		bySize[1] = append(bySize[1], param(name))
	}
	for size := 2; size <= nodes; size++ {
		var here []impl.Level
		for _, l := range bySize[size-1] {
			here = append(here, succ(l, 1))
		}
		for left := 1; left < size-1; left++ {
			for _, a := range bySize[left] {
				for _, b := range bySize[size-1-left] {
					here = append(here, pair(impl.LevelMax, a, b), pair(impl.LevelImax, a, b))
				}
			}
		}
		bySize = append(bySize, here)
	}
	return slices.Concat(bySize...)
}

// randomLevel has at most so many nodes; small parts are likely, so that two of
// them are often in order.
func randomLevel(r *rand.Rand, nodes int, names []string) impl.Level {
	if nodes < 3 || r.Intn(6) == 0 {
		if nodes > 1 && r.Intn(3) == 0 {
			return succ(randomLevel(r, 1, names), 1)
		}
		if i := r.Intn(len(names) + 1); i < len(names) {
			return param(names[i])
		}
		return zero()
	}
	switch r.Intn(3) {
	case 0:
		times := 1 + r.Intn(min(3, nodes-1))
		return succ(randomLevel(r, nodes-times, names), times)
	case 1:
		left := 1 + r.Intn(nodes-2)
		return pair(impl.LevelMax, randomLevel(r, left, names), randomLevel(r, nodes-1-left, names))
	}
	left := 1 + r.Intn(nodes-2)
	return pair(impl.LevelImax, randomLevel(r, left, names), randomLevel(r, nodes-1-left, names))
}

// allValues gives each way to give the names one of the values.
func allValues(names []string, values []int) []map[string]int {
	ways := []map[string]int{{}}
	for _, name := range names {
		var next []map[string]int
		for _, way := range ways {
			for _, v := range values {
				one := map[string]int{name: v}
				for k, x := range way {
					one[k] = x
				}
				next = append(next, one)
			}
		}
		ways = next
	}
	return ways
}

func numbersOf(l impl.Level, ways []map[string]int) []int {
	var numbers []int
	for _, way := range ways {
		numbers = append(numbers, numberOf(l, way))
	}
	return numbers
}

func allLeq(a, b []int) bool {
	for i := range a {
		if a[i] > b[i] {
			return false
		}
	}
	return true
}

// wrongLevels are levels that are not valid, each for one fault.
func wrongLevels() []impl.Level {
	z := impl.LNode{K: impl.LevelZero}
	u := impl.LNode{K: impl.LevelParam, S: "u"}
	two := func(kids ...int) impl.LNode { return impl.LNode{K: impl.LevelMax, Kids: kids} }
	one := func(kids ...int) impl.LNode { return impl.LNode{K: impl.LevelSucc, Kids: kids} }
	lists := [][]impl.LNode{
		nil,
		{},
		{{}},
		{{K: 6}},
		{{K: -1}},
		{z, u},
		{z, z, one(1)},
		{one()},
		{one(0)},
		{one(-1)},
		{one(1), z},
		{z, one(1)},
		{z, one(0, 0)},
		{z, one(-1)},
		{z, one(1 << 62)},
		{z, two(0)},
		{z, two(0, 0)},
		{z, two(-1, 0)},
		{z, u, two(1, 0)},
		{z, u, two(0, 0)},
		{z, u, two(1, 1)},
		{z, u, two(0, 1, 1)},
		{z, u, two()},
		{z, u, two(0, 2)},
		{z, u, one(0), two(1, 2)},
		{z, one(0), u, two(0, 2)},
		{z, one(0), one(0), two(1, 2)},
		{u, z, {K: impl.LevelImax, Kids: []int{1, 0}}},
		{{K: impl.LevelZero, S: "u"}},
		{{K: impl.LevelZero, Kids: []int{0}}},
		{{K: impl.LevelParam}},
		{{K: impl.LevelParam, S: "max"}},
		{{K: impl.LevelParam, S: "imax"}},
		{{K: impl.LevelParam, S: "u.v"}},
		{{K: impl.LevelParam, S: "1"}},
		{{K: impl.LevelParam, S: "u "}},
		{{K: impl.LevelParam, S: "u", Kids: []int{0}}},
		{z, {K: impl.LevelSucc, S: "u", Kids: []int{0}}},
		{z, z, {K: impl.LevelMax, S: "u", Kids: []int{0, 1}}},
		{z, z, {K: impl.LevelImax, S: "u", Kids: []int{0, 1}}},
	}
	var levels []impl.Level
	for _, nodes := range lists {
		levels = append(levels, impl.Level{Nodes: nodes})
	}
	return levels
}

// chain is the greatest of parameters of these names.
func chain(kind int, names ...string) impl.Level {
	l := param(names[0])
	for _, name := range names[1:] {
		l = pair(kind, l, param(name))
	}
	return l
}
