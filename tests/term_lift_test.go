package tests

import (
	"math"
	"math/rand"
	"testing"

	"loop.example/g00005/impl"
)

func TestClosedAndUses(t *testing.T) {
	p := prop()
	v := variable
	for i, c := range []struct {
		x    impl.Term
		n    int // the least for which it is closed
		uses []int
	}{
		{p, 0, []int{0, 0}},
		{hole(3), 0, []int{0, 0, 0, 0}},
		{constant("c"), 0, []int{0}},
		{v(0), 1, []int{1, 0}},
		{v(2), 3, []int{0, 0, 1, 0}},
		{v(impl.MaxNodes), impl.MaxNodes + 1, []int{0}},
		{app(v(0), v(0)), 1, []int{2, 0}},
		{lam("x", 0, p, v(0)), 0, []int{0, 0}},
		{lam("x", 0, p, v(1)), 1, []int{1, 0}},
		{lam("x", 0, v(0), p), 1, []int{1, 0}},
		{lam("x", 0, v(0), v(0)), 1, []int{1, 0}},
		{lam("x", 0, v(0), v(1)), 1, []int{2, 0}},
		{pi("x", 0, v(1), v(1)), 2, []int{1, 1, 0}},
		{let("x", v(0), p, p), 1, []int{1, 0}},
		{let("x", p, v(0), p), 1, []int{1, 0}},
		{let("x", p, p, v(0)), 0, []int{0, 0}},
		{let("x", p, p, v(1)), 1, []int{1, 0}},
		{let("x", v(0), v(0), v(1)), 1, []int{3, 0}},
		{let("x", v(2), v(1), v(1)), 3, []int{1, 1, 1, 0}},
		{proj("P", 9, v(1)), 2, []int{0, 1, 0}},
		{lam("x", 0, p, lam("y", 0, v(0), v(0))), 0, []int{0}},
		{lam("x", 0, p, lam("y", 0, v(1), v(2))), 1, []int{2, 0}},
		{lam("x", 0, lam("y", 0, p, v(1)), v(1)), 1, []int{2, 0}},
	} {
		for n := -2; n < 6; n++ {
			if impl.Closed(c.x, n) != (n >= c.n && n >= 0) {
				t.Errorf("%d is closed for %d: %v", i, n, impl.Closed(c.x, n))
			}
		}
		if impl.Closed(c.x, c.n-1) || !impl.Closed(c.x, c.n) || !impl.Closed(c.x, math.MaxInt) || impl.Closed(c.x, math.MinInt) {
			t.Errorf("%d is closed for %d", i, c.n)
		}
		for v, count := range c.uses {
			if impl.Uses(c.x, v) != count {
				t.Errorf("%d uses %d %d times", i, v, impl.Uses(c.x, v))
			}
		}
		for _, v := range []int{-1, -2, math.MinInt, math.MaxInt} {
			if impl.Uses(c.x, v) != 0 {
				t.Errorf("%d uses %d", i, v)
			}
		}
	}
	// Bound by the outermost of many binders, and one more.
	if n := impl.MaxNodes/2 - 1; !impl.Closed(wideLams(n, n-1), 0) || impl.Closed(wideLams(n, n), 0) || !impl.Closed(wideLams(n, n), 1) || impl.Uses(wideLams(n, n), 0) != 1 {
		t.Errorf("many binders")
	}
}

func wideLams(times, body int) impl.Term {
	return lams(times, func(int) impl.Term { return prop() }, variable(body))
}

func TestClosedAndUsesOfSmallTerms(t *testing.T) {
	for _, x := range smallTerms(5, variable(0), variable(1), variable(2), hole(0)) {
		counts := treeOf(x).numbers()
		least := 0
		for v := range counts {
			least = max(least, v+1)
		}
		for v := range 4 {
			if impl.Uses(x, v) != counts[v] || impl.Closed(x, v) != (v >= least) {
				t.Fatalf("%v at %d", x, v)
			}
		}
	}
}

func TestClosedAndUsesWrong(t *testing.T) {
	for i, x := range wrongTerms() {
		if impl.Closed(x, 0) || impl.Closed(x, impl.MaxNodes+2) || impl.Uses(x, 0) != 0 || impl.Uses(x, impl.MaxNodes+1) != 0 {
			t.Errorf("%d", i)
		}
	}
}

func holdLift(t *testing.T, x impl.Term, from, by int) impl.Term {
	t.Helper()
	got, code := impl.Lift(x, from, by)
	if code != 0 || !equalTerms(got, treeOf(x).lifted(from, by).term()) {
		t.Fatalf("%v from %d by %d: code %d, %v", x, from, by, code, got)
	}
	return got
}

func TestLiftOfSmallTerms(t *testing.T) {
	for _, x := range smallTerms(4, variable(0), variable(1), variable(2), hole(0), constant("c", param("u"))) {
		for from := range 4 {
			for by := range 3 {
				holdLift(t, x, from, by)
			}
		}
	}
}

func TestLiftTwice(t *testing.T) {
	r := rand.New(rand.NewSource(33))
	for range 4000 {
		x := randomTerm(r, 1+r.Intn(12), 0)
		from, a, b := r.Intn(4), r.Intn(4), r.Intn(4)
		once := holdLift(t, holdLift(t, x, from, a), from+r.Intn(a+1), b)
		if !equalTerms(once, holdLift(t, x, from, a+b)) {
			t.Fatalf("%v from %d by %d and %d", x, from, a, b)
		}
		// Lifting at two places can be done in either order.
		more := from + r.Intn(3)
		left := holdLift(t, holdLift(t, x, from, a), more+a, b)
		if !equalTerms(left, holdLift(t, holdLift(t, x, more, b), from, a)) {
			t.Fatalf("%v from %d and %d", x, from, more)
		}
		// The answer has no use of the numbers that were left free.
		got := holdLift(t, x, from, a)
		for v := range 6 {
			want := impl.Uses(x, v)
			if v >= from && v < from+a {
				want = 0
			} else if v >= from+a {
				want = impl.Uses(x, v-a)
			}
			if impl.Uses(got, v) != want {
				t.Fatalf("%v uses %d", got, v)
			}
		}
	}
}

func TestLiftCodes(t *testing.T) {
	great := impl.MaxNodes
	bound := lam("x", 0, prop(), variable(0))
	for i, c := range []struct {
		x        impl.Term
		from, by int
		code     int
	}{
		{variable(0), -1, 0, impl.CodeInput},
		{variable(0), 0, -1, impl.CodeInput},
		{variable(0), great, 0, 0},
		{variable(0), great + 1, 0, impl.CodeInput},
		{variable(0), 0, great, 0},
		{variable(0), 0, great + 1, impl.CodeInput},
		{variable(0), great, great, 0},
		{variable(0), math.MinInt, 1, impl.CodeInput},
		{variable(0), 1, math.MinInt, impl.CodeInput},
		{variable(0), math.MaxInt, 1, impl.CodeInput},
		{variable(0), 1, math.MaxInt, impl.CodeInput},
		{prop(), -1, 0, impl.CodeInput},
		{prop(), 0, great + 1, impl.CodeInput},
		{variable(1), 0, great - 1, 0},
		{variable(1), 0, great, impl.CodeSize},
		{variable(1), 1, great, impl.CodeSize},
		{variable(1), 2, great, 0},
		{variable(great), 0, 0, 0},
		{variable(great), 0, 1, impl.CodeSize},
		{variable(great), great, 1, impl.CodeSize},
		{variable(great - 1), great - 1, 1, 0},
		{variable(great - 1), great, 1, 0},
		{bound, 0, great, 0},
		{wideLams(9999, 9998), 0, great, 0},
		{wideLams(9999, 9999), 0, great - 9999, 0},
		{wideLams(9999, 9999), 0, great - 9998, impl.CodeSize},
		{wideLams(9999, 9999), 1, great - 9998, 0},
		{lam("x", 0, prop(), variable(great)), 0, 1, impl.CodeSize},
		{lam("x", 0, prop(), variable(great)), great - 1, 1, impl.CodeSize},
		{lam("x", 0, prop(), variable(great)), great, 1, 0},
		{app(variable(great), variable(0)), 0, 1, impl.CodeSize},
		{app(variable(0), variable(great)), 0, 1, impl.CodeSize},
		{let("x", variable(great), prop(), prop()), 0, 1, impl.CodeSize},
		{let("x", prop(), variable(great), prop()), 0, 1, impl.CodeSize},
		{let("x", prop(), prop(), variable(great)), 0, 1, impl.CodeSize},
		{projs(great-1, variable(3)), 3, great - 3, 0},
	} {
		got, code := impl.Lift(c.x, c.from, c.by)
		if code != c.code || code != 0 && len(got.Nodes) != 0 || code == 0 && !impl.TermOk(got) {
			t.Errorf("%d: code %d for %d", i, code, c.code)
		}
	}
	for i, x := range wrongTerms() {
		for _, by := range []int{-1, 0, 1} {
			if got, code := impl.Lift(x, 0, by); code != impl.CodeInput || len(got.Nodes) != 0 {
				t.Errorf("%d: code %d", i, code)
			}
		}
	}
}

func TestLiftKeepsBoundVariables(t *testing.T) {
	x := let("a", variable(0), variable(1), lam("b", 2, variable(0), app(variable(0), variable(1), variable(2), variable(3))))
	got, code := impl.Lift(x, 1, 10)
	want := let("a", variable(0), variable(11), lam("b", 2, variable(0), app(variable(0), variable(1), variable(2), variable(13))))
	if code != 0 || !equalTerms(got, want) {
		t.Errorf("code %d, %v", code, got)
	}
}
