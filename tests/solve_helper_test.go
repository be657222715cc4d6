package tests

import (
	"math/big"
	"math/rand"
	"slices"

	"loop.example/g00005/impl"
)

func cons(a, n, b int) impl.Cons {
	return impl.Cons{A: a, N: n, B: b}
}

// meetsByHand takes the document's words with numbers that have no end.
func meetsByHand(values []int, list []impl.Cons) bool {
	number := func(side int) *big.Int {
		if side == -1 {
			return big.NewInt(0)
		}
		return big.NewInt(int64(values[side]))
	}
	for i := range values {
		if values[i] < 0 {
			return false
		}
	}
	for _, c := range list {
		sum := new(big.Int).Add(number(c.A), big.NewInt(int64(c.N)))
		if sum.Cmp(number(c.B)) > 0 {
			return false
		}
	}
	return true
}

// slowLeast tries all values up to a bound; it gives the least value of each
// unknown among those that meet the constraints, or nothing and false.
func slowLeast(n int, list []impl.Cons, bound int) ([]int, bool) {
	values := make([]int, n)
	var least []int
	for {
		if meetsByHand(values, list) {
			if least == nil {
				least = slices.Clone(values)
				if n == 0 {
					least = []int{}
				}
			}
			for i, v := range values {
				least[i] = min(least[i], v)
			}
		}
		at := 0
		for at < n && values[at] == bound {
			values[at] = 0
			at++
		}
		if at == n {
			return least, least != nil
		}
		values[at]++
	}
}

func cycleByHand(list []impl.Cons, positions []int) bool {
	sum := 0
	for i, at := range positions {
		next := list[positions[(i+1)%len(positions)]]
		if list[at].B != -1 && list[at].B != next.A {
			return false
		}
		sum += list[at].N
	}
	return sum > 0
}

// slowCycle goes through all lists of positions, shorter ones first and those
// of one length in their order.
func slowCycle(list []impl.Cons, longest int) []int {
	if len(list) == 0 {
		return nil
	}
	for length := 1; length <= longest; length++ {
		positions := make([]int, length)
		for {
			if cycleByHand(list, positions) {
				return positions
			}
			at := length - 1
			for at >= 0 && positions[at] == len(list)-1 {
				positions[at] = 0
				at--
			}
			if at < 0 {
				break
			}
			positions[at]++
		}
	}
	return nil
}

func randomCons(r *rand.Rand, n, count, step int) []impl.Cons {
	var list []impl.Cons
	for range count {
		list = append(list, cons(r.Intn(n+1)-1, r.Intn(2*step+1)-step, r.Intn(n+1)-1))
	}
	return list
}

// isLeast goes from what has to be 0 over the constraints that are just met:
// a number that it comes to in this way cannot be less.
func isLeast(values []int, list []impl.Cons) bool {
	held := make([]bool, len(values)+1)
	held[0] = true
	number := func(side int) int {
		if side == -1 {
			return 0
		}
		return values[side]
	}
	for i, v := range values {
		held[i+1] = v == 0
	}
	for range values {
		for _, c := range list {
			if held[c.A+1] && number(c.A)+c.N == number(c.B) {
				held[c.B+1] = true
			}
		}
	}
	return !slices.Contains(held, false)
}

// wrongCons are constraints that are not valid for their number of unknowns,
// each for one fault.
func wrongCons() []struct {
	n    int
	list []impl.Cons
} {
	return []struct {
		n    int
		list []impl.Cons
	}{
		{-1, nil},
		{impl.MaxVars + 1, nil},
		{2, slices.Repeat([]impl.Cons{cons(0, 0, 1)}, impl.MaxCons+1)},
		{2, []impl.Cons{cons(-2, 0, 0)}},
		{2, []impl.Cons{cons(2, 0, 0)}},
		{2, []impl.Cons{cons(0, 0, -2)}},
		{2, []impl.Cons{cons(0, 0, 2)}},
		{0, []impl.Cons{cons(0, 0, -1)}},
		{0, []impl.Cons{cons(-1, 0, 0)}},
		{2, []impl.Cons{cons(0, impl.MaxStep+1, 1)}},
		{2, []impl.Cons{cons(0, -impl.MaxStep-1, 1)}},
		{2, []impl.Cons{cons(0, 1, 0), cons(0, 1, 7)}},
	}
}
