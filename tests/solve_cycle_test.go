package tests

import (
	"math"
	"math/rand"
	"slices"
	"testing"

	"loop.example/g00005/impl"
)

func TestFirstCycle(t *testing.T) {
	for i, c := range []struct {
		n    int
		list []impl.Cons
		want []int
	}{
		// one constraint by itself
		{1, []impl.Cons{cons(0, 1, 0)}, []int{0}},
		{0, []impl.Cons{cons(-1, 0, -1), cons(-1, 1, -1)}, []int{1}},
		{1, []impl.Cons{cons(0, 1, -1)}, []int{0}},
		// the fewest positions ahead of the least list, and of the greatest sum
		{2, []impl.Cons{cons(0, 9, 1), cons(1, 9, 0), cons(1, 1, 1)}, []int{2}},
		{3, []impl.Cons{cons(0, 5, 1), cons(1, 5, 2), cons(2, 5, 0), cons(1, -4, 0)}, []int{0, 3}},
		// two of equal length
		{2, []impl.Cons{cons(1, 2, 0), cons(0, 0, 1), cons(0, 1, 1)}, []int{0, 1}},
		{2, []impl.Cons{cons(1, 0, 0), cons(0, 0, 1), cons(0, 1, 1)}, []int{0, 2}},
		{2, []impl.Cons{cons(0, 1, 1), cons(1, 1, 0), cons(0, 1, 1), cons(1, 1, 0)}, []int{0, 1}},
		{4, []impl.Cons{cons(3, 1, 2), cons(0, 1, 1), cons(1, 1, 0), cons(2, 1, 3)}, []int{0, 3}},
		{2, []impl.Cons{cons(1, 1, 1), cons(0, 9, 0)}, []int{0}},
		// behind -1 comes any constraint, from -1 on too
		{1, []impl.Cons{cons(0, 0, -1), cons(-1, 1, 0)}, []int{0, 1}},
		{1, []impl.Cons{cons(-1, 1, 0), cons(0, 0, -1)}, []int{0, 1}},
		{3, []impl.Cons{cons(2, -1, -1), cons(0, 1, 1), cons(1, 1, 2)}, []int{0, 1, 2}},
		{3, []impl.Cons{cons(1, 1, 2), cons(0, 1, 1), cons(2, -1, -1)}, []int{0, 2, 1}},
		{3, []impl.Cons{cons(1, 2, 2), cons(0, 1, 1), cons(2, -1, -1)}, []int{0, 2}},
		// but what comes from -1 comes behind -1 only
		{1, []impl.Cons{cons(-1, 1, 0)}, nil},
		{2, []impl.Cons{cons(0, 0, 1), cons(-1, 1, 0)}, nil},
		{2, []impl.Cons{cons(0, 1, 1), cons(-1, 1, 0)}, nil},
		// a sum of 0 is none
		{2, []impl.Cons{cons(0, 1, 1), cons(1, -1, 0)}, nil},
		{1, []impl.Cons{cons(0, 0, 0), cons(-1, 0, -1)}, nil},
	} {
		values, cycle, ok := impl.Solve(c.n, c.list)
		if !slices.Equal(cycle, c.want) || ok != (len(c.want) == 0) || len(values) > 0 && !ok {
			t.Errorf("%d: %v %v %v, want %v", i, values, cycle, ok, c.want)
		}
	}
}

func TestCycle(t *testing.T) {
	list := []impl.Cons{
		cons(0, 1, 1),  // 0
		cons(1, 0, 0),  // 1
		cons(1, -1, 0), // 2
		cons(1, 0, -1), // 3
		cons(-1, 2, 0), // 4
		cons(1, 3, 1),  // 5
		cons(0, 5, -1), // 6
	}
	for i, c := range []struct {
		positions []int
		want      bool
	}{
		{nil, false},
		{[]int{}, false},
		{[]int{0}, false},
		{[]int{0, 1}, true},
		{[]int{1, 0}, true},
		{[]int{0, 2}, false},
		{[]int{0, 2, 0, 1}, true},
		{[]int{0, 1, 0, 1}, true},
		{[]int{0, 2, 0, 2}, false},
		{[]int{0, 0}, false},
		{[]int{0, 1, 0}, false},
		{[]int{5}, true},
		{[]int{5, 5}, true},
		{[]int{6}, true},
		{[]int{6, 6}, true},
		{[]int{3}, false},
		{[]int{3, 0}, true},
		{[]int{0, 3}, true},
		{[]int{3, 4, 0}, true},
		{[]int{4, 0, 3}, true},
		{[]int{4, 0}, false},
		{[]int{4, 3}, false},
		{[]int{0, 4}, false},
		{[]int{4}, false},
		{[]int{3, 6}, true},
		{[]int{3, 3, 5, 2, 0, 3}, true},
		{[]int{0, 7}, false},
		{[]int{7}, false},
		{[]int{-1}, false},
		{[]int{0, 1, -1}, false},
		{[]int{5, math.MaxInt}, false},
		{[]int{5, math.MinInt}, false},
	} {
		if got := impl.Cycle(2, list, c.positions); got != c.want {
			t.Errorf("%d: %v: %v", i, c.positions, got)
		}
	}
	if impl.Cycle(1, list, []int{6}) || impl.Cycle(-1, nil, nil) || impl.Cycle(3, nil, nil) || impl.Cycle(3, nil, []int{0}) {
		t.Errorf("a cycle of what has none")
	}
	if !impl.Cycle(impl.MaxVars, list, []int{6}) || impl.Cycle(impl.MaxVars+1, list, []int{6}) {
		t.Errorf("MaxVars")
	}
}

func TestCycleWrongCons(t *testing.T) {
	for i, c := range wrongCons() {
		given := append([]impl.Cons{cons(-1, 1, -1)}, c.list...)
		if impl.Cycle(c.n, given, []int{0}) {
			t.Errorf("%d: a cycle of wrong constraints", i)
		}
	}
}

func TestCycleRandom(t *testing.T) {
	r := rand.New(rand.NewSource(3))
	are := 0
	for range 20000 {
		n := r.Intn(3)
		list := randomCons(r, n, 1+r.Intn(4), 2)
		positions := make([]int, 1+r.Intn(4))
		for i := range positions {
			positions[i] = r.Intn(len(list))
		}
		want := cycleByHand(list, positions)
		if got := impl.Cycle(n, list, positions); got != want {
			t.Fatalf("%v %v: %v", list, positions, got)
		}
		if want {
			are++
		}
	}
	if are < 1000 {
		t.Errorf("only %d cycles", are)
	}
}
