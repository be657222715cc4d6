package tests

import (
	"math"
	"math/rand"
	"slices"
	"testing"

	"loop.example/g00005/impl"
)

func TestConsOk(t *testing.T) {
	last := impl.MaxVars - 1
	for i, c := range []struct {
		n    int
		list []impl.Cons
	}{
		{0, nil},
		{0, []impl.Cons{}},
		{0, []impl.Cons{cons(-1, 5, -1)}},
		{1, []impl.Cons{cons(-1, 0, 0), cons(0, 0, -1)}},
		{impl.MaxVars, nil},
		{impl.MaxVars, []impl.Cons{cons(-1, 0, last), cons(last, 0, -1)}},
		{2, []impl.Cons{cons(0, impl.MaxStep, 1), cons(1, -impl.MaxStep, 0)}},
		{2, slices.Repeat([]impl.Cons{cons(0, 0, 1)}, impl.MaxCons)},
	} {
		if !impl.ConsOk(c.n, c.list) {
			t.Errorf("%d: %d %v is not taken", i, c.n, c.list)
		}
	}
	for i, c := range wrongCons() {
		if impl.ConsOk(c.n, c.list) {
			t.Errorf("%d: %d %v is taken", i, c.n, c.list)
		}
	}
	for _, far := range []int{math.MinInt, math.MaxInt} {
		if impl.ConsOk(far, nil) || impl.ConsOk(1, []impl.Cons{cons(far, 0, 0)}) ||
			impl.ConsOk(1, []impl.Cons{cons(0, far, 0)}) || impl.ConsOk(1, []impl.Cons{cons(0, 0, far)}) {
			t.Errorf("%d is taken", far)
		}
	}
}

func TestMeets(t *testing.T) {
	list := []impl.Cons{cons(-1, 2, 0), cons(0, 1, 1), cons(1, -5, -1)}
	for i, c := range []struct {
		values []int
		list   []impl.Cons
		want   bool
	}{
		{nil, nil, true},
		{[]int{}, []impl.Cons{cons(-1, 0, -1)}, true},
		{nil, []impl.Cons{cons(-1, -3, -1)}, true},
		{nil, []impl.Cons{cons(-1, 1, -1)}, false},
		{[]int{0}, nil, true},
		{[]int{-1}, nil, false},
		{[]int{0, -1}, []impl.Cons{cons(0, -1, 0)}, false},
		{[]int{math.MinInt}, []impl.Cons{cons(0, 0, -1)}, false},
		{[]int{2, 3}, list, true},
		{[]int{4, 5}, list, true},
		{[]int{1, 3}, list, false},
		{[]int{3, 3}, list, false},
		{[]int{2, 6}, list, false},
		{[]int{2}, list, false},
		{nil, list, false},
		{[]int{2, 3, 0}, list, true},
		{make([]int, impl.MaxVars), []impl.Cons{cons(0, 0, impl.MaxVars-1)}, true},
		{make([]int, impl.MaxVars+1), nil, false},
		{[]int{0, 0}, slices.Repeat([]impl.Cons{cons(0, 0, 1)}, impl.MaxCons), true},
		{[]int{0, 0}, slices.Repeat([]impl.Cons{cons(0, 0, 1)}, impl.MaxCons+1), false},
	} {
		if got := impl.Meets(c.values, c.list); got != c.want {
			t.Errorf("%d: %v", i, got)
		}
	}
	for i, c := range wrongCons() {
		if impl.Meets(make([]int, max(0, c.n)), c.list) && c.n >= 0 {
			t.Errorf("%d: wrong constraints are met", i)
		}
	}
}

func TestMeetsDoesNotWrap(t *testing.T) {
	var edges []int
	for by := range 3 {
		edges = append(edges, by, impl.MaxStep-by, impl.MaxStep+by, math.MaxInt-by,
			math.MaxInt-impl.MaxStep-by, math.MaxInt-impl.MaxStep+by, math.MinInt+by, -by)
	}
	steps := []int{-impl.MaxStep, -impl.MaxStep + 1, -1, 0, 1, impl.MaxStep - 1, impl.MaxStep}
	for _, a := range edges {
		for _, b := range edges {
			for _, step := range steps {
				for _, c := range []impl.Cons{cons(0, step, 1), cons(0, step, -1), cons(-1, step, 1), cons(0, step, 0)} {
					values := []int{a, b}
					one := []impl.Cons{c}
					if got := impl.Meets(values, one); got != meetsByHand(values, one) {
						t.Fatalf("%v %v: %v", values, one, got)
					}
				}
			}
		}
	}
}

// holdSolve holds one set of few constraints with small steps against the slow
// searches.
func holdSolve(t *testing.T, n int, list []impl.Cons, bound int) bool {
	t.Helper()
	values, cycle, ok := impl.Solve(n, list)
	least, can := slowLeast(n, list, bound)
	if ok != can || !slices.Equal(values, least) {
		t.Fatalf("%d %v: %v %v, the search has %v %v", n, list, values, ok, least, can)
	}
	first := slowCycle(list, n+1)
	if !slices.Equal(cycle, first) || ok != (len(first) == 0) {
		t.Fatalf("%d %v: cycle %v, the search has %v", n, list, cycle, first)
	}
	if ok && !impl.Meets(values, list) || !ok && !impl.Cycle(n, list, cycle) {
		t.Fatalf("%d %v: %v %v do not hold", n, list, values, cycle)
	}
	return ok
}

func TestSolveAllSmall(t *testing.T) {
	for n := range 3 {
		kinds := []impl.Cons{}
		for a := -1; a < n; a++ {
			for b := -1; b < n; b++ {
				for step := -1; step <= 1; step++ {
					kinds = append(kinds, cons(a, step, b))
				}
			}
		}
		holdSolve(t, n, nil, 2)
		for _, x := range kinds {
			holdSolve(t, n, []impl.Cons{x}, 2)
			for _, y := range kinds {
				holdSolve(t, n, []impl.Cons{x, y}, 2)
				for _, z := range kinds {
					holdSolve(t, n, []impl.Cons{x, y, z}, 2)
				}
			}
		}
	}
}

func TestSolveRandom(t *testing.T) {
	r := rand.New(rand.NewSource(2))
	met, not := 0, 0
	for range 6000 {
		n := 1 + r.Intn(3)
		step := 1 + r.Intn(2)
		if holdSolve(t, n, randomCons(r, n, 1+r.Intn(6), step), n*step) {
			met++
		} else {
			not++
		}
	}
	for range 300 {
		holdSolve(t, 4, randomCons(r, 4, 4+r.Intn(3), 1), 4)
	}
	if met < 500 || not < 500 {
		t.Errorf("one-sided: %d are met, %d not", met, not)
	}
}

func TestSolveWrong(t *testing.T) {
	for i, c := range wrongCons() {
		values, cycle, ok := impl.Solve(c.n, c.list)
		if len(values) > 0 || len(cycle) > 0 || ok {
			t.Errorf("%d: %v %v %v", i, values, cycle, ok)
		}
	}
}

func TestSolveKeepsItsArgument(t *testing.T) {
	list := []impl.Cons{cons(-1, 1, 0), cons(0, 2, 1), cons(1, -2, 0), cons(1, -9, -1)}
	for _, last := range []impl.Cons{cons(0, 0, 1), cons(1, 0, 0)} {
		given := append(slices.Clone(list), last)
		before := slices.Clone(given)
		values, cycle, _ := impl.Solve(2, given)
		impl.Meets([]int{1, 3}, given)
		impl.Cycle(2, given, []int{1, 4})
		if !slices.Equal(given, before) {
			t.Errorf("changed: %v", given)
		}
		again, cycleAgain, _ := impl.Solve(2, given)
		for i := range again {
			again[i] = 77
		}
		for i := range cycleAgain {
			cycleAgain[i] = 77
		}
		if slices.Contains(values, 77) || slices.Contains(cycle, 77) {
			t.Errorf("two answers share memory")
		}
	}
}

// longWay goes from 0 over all unknowns, the last position first; what is left
// of MaxCons is filled with constraints that ask for nothing more.
func longWay(step int) []impl.Cons {
	var list []impl.Cons
	for unknown := impl.MaxVars - 1; unknown >= 0; unknown-- {
		list = append(list, cons(unknown-1, step, unknown))
	}
	for i := 0; len(list) < impl.MaxCons; i++ {
		list = append(list, cons(i%impl.MaxVars, -impl.MaxStep, (i+7)%impl.MaxVars-1))
	}
	return list
}

func TestSolveGreatest(t *testing.T) {
	list := longWay(impl.MaxStep)
	for i := impl.MaxVars; i < impl.MaxCons; i++ {
		list[i] = cons(impl.MaxVars-1, -impl.MaxStep, impl.MaxVars-2)
	}
	want := make([]int, impl.MaxVars)
	for i := range want {
		want[i] = (i + 1) * impl.MaxStep
	}
	values, cycle, ok := impl.Solve(impl.MaxVars, list)
	if !ok || len(cycle) > 0 || !slices.Equal(values, want) || !impl.Meets(values, list) {
		t.Errorf("%v %v %v", values, cycle, ok)
	}
}

func TestSolveLongestCycle(t *testing.T) {
	// The way back to 0 takes so much that all steps of the way are needed.
	list := longWay(1)
	list[impl.MaxCons-1] = cons(impl.MaxVars-1, 1-impl.MaxVars, -1)
	want := []int{0, impl.MaxCons - 1}
	for at := impl.MaxVars - 1; at > 0; at-- {
		want = append(want, at)
	}
	values, cycle, ok := impl.Solve(impl.MaxVars, list)
	if ok || len(values) > 0 || !slices.Equal(cycle, want) {
		t.Errorf("%v %v %v, want %v", values, cycle, ok, want)
	}
	list[impl.MaxCons-1].N--
	values, cycle, ok = impl.Solve(impl.MaxVars, list)
	if !ok || len(cycle) > 0 || !meetsByHand(values, list) || !isLeast(values, list) {
		t.Errorf("%v %v %v", values, cycle, ok)
	}
}

func TestSolveManyGreat(t *testing.T) {
	r := rand.New(rand.NewSource(22))
	met, not := 0, 0
	for range 1500 {
		// Steps between levels that are thought of, so that many are met.
		hidden := make([]int, impl.MaxVars+1)
		for i := range impl.MaxVars {
			hidden[i+1] = r.Intn(400)
		}
		list := randomCons(r, impl.MaxVars, impl.MaxCons, 0)
		spoiled := r.Intn(3) - 1
		for i, c := range list {
			list[i].N = hidden[c.B+1] - hidden[c.A+1] - r.Intn(9) + max(0, spoiled)*r.Intn(5)
		}
		values, cycle, ok := impl.Solve(impl.MaxVars, list)
		if ok {
			met++
			if len(cycle) > 0 || len(values) != impl.MaxVars || !meetsByHand(values, list) || !isLeast(values, list) {
				t.Fatalf("%v: %v %v", list, values, cycle)
			}
			continue
		}
		not++
		if len(values) > 0 || len(cycle) == 0 || !cycleByHand(list, cycle) || !leastLength(list, len(cycle)) {
			t.Fatalf("%v: %v %v", list, values, cycle)
		}
	}
	if met < 200 || not < 200 {
		t.Errorf("one-sided: %d are met, %d not", met, not)
	}
}

// leastLength says that no cycle has fewer constraints: it goes on from each
// constraint with the greatest sum for each last one.
func leastLength(list []impl.Cons, length int) bool {
	const none = -1 << 40
	for _, first := range list {
		sums := slices.Repeat([]int{none}, len(list))
		for at, c := range list {
			if c == first {
				sums[at] = c.N
			}
		}
		for range length - 1 {
			for at, c := range list {
				if sums[at] > 0 && (c.B == -1 || c.B == first.A) {
					return false
				}
			}
			next := slices.Repeat([]int{none}, len(list))
			for at, c := range list {
				for before, b := range list {
					if sums[before] > none && (b.B == -1 || b.B == c.A) {
						next[at] = max(next[at], sums[before]+c.N)
					}
				}
			}
			sums = next
		}
	}
	return true
}
