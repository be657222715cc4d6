package tests

import (
	"math/rand"
	"slices"
	"testing"

	"loop.example/g00005/impl"
)

func holdPut(t *testing.T, b, a impl.Term) impl.Term {
	t.Helper()
	got, code := impl.Put(b, a)
	if code != 0 || !equalTerms(got, treeOf(b).put(treeOf(a)).term()) {
		t.Fatalf("%v with %v: code %d, %v", b, a, code, got)
	}
	return got
}

func holdPutHole(t *testing.T, x impl.Term, n int, a impl.Term) impl.Term {
	t.Helper()
	got, code := impl.PutHole(x, n, a)
	if code != 0 || !equalTerms(got, treeOf(x).putHole(n, treeOf(a)).term()) {
		t.Fatalf("%v with %v: code %d, %v", x, a, code, got)
	}
	return got
}

// fewTerms are what is put: with variables, binders, and holes of the numbers
// that are put.
func fewTerms() []impl.Term {
	v := variable
	return []impl.Term{
		v(0), v(1), v(5), hole(0), hole(1), prop(), constant("c", param("u")),
		app(v(0), v(1)), lam("w", 2, v(0), v(0)), pi("w", 1, v(0), v(1)),
		let("w", v(0), v(1), app(v(0), v(2))), proj("Q", 3, app(v(2), hole(0))),
		lam("w", 0, prop(), lam("w", 0, v(0), app(v(0), v(1), v(2)))),
	}
}

func TestPutOfSmallTerms(t *testing.T) {
	for _, b := range smallTerms(5, variable(0), variable(1), variable(2), hole(0)) {
		for _, a := range fewTerms() {
			holdPut(t, b, a)
			holdPutHole(t, b, 0, a)
		}
	}
}

func TestPutUnder(t *testing.T) {
	v := variable
	for i, c := range []struct{ b, a, want impl.Term }{
		{v(0), v(7), v(7)},
		{v(1), v(7), v(0)},
		{v(impl.MaxNodes), v(7), v(impl.MaxNodes - 1)},
		{lam("x", 0, v(0), v(0)), v(7), lam("x", 0, v(7), v(0))},
		{lam("x", 1, v(1), v(1)), v(7), lam("x", 1, v(0), v(8))},
		{pi("x", 2, v(2), v(2)), v(7), pi("x", 2, v(1), v(1))},
		{let("x", v(0), v(0), v(0)), v(7), let("x", v(7), v(7), v(0))},
		{let("x", v(1), v(0), v(1)), v(7), let("x", v(0), v(7), v(8))},
		{let("x", v(0), v(1), v(2)), v(7), let("x", v(7), v(0), v(1))},
		{proj("P", 2, v(0)), v(7), proj("P", 2, v(7))},
		{wrap("lpz", v(3)), lam("q", 1, v(0), app(v(0), v(1))), wrap("lpz", lam("q", 1, v(3), app(v(0), v(4))))},
	} {
		got, code := impl.Put(c.b, c.a)
		if code != 0 || !equalTerms(got, c.want) {
			t.Errorf("%d: code %d, %v", i, code, got)
		}
	}
}

// Promise 3: what is lifted and then put is as before, at any depth.
func TestLiftThenPut(t *testing.T) {
	for _, x := range smallTerms(4, variable(0), variable(1), variable(2), hole(0)) {
		for _, a := range fewTerms() {
			for from, kinds := range []string{"", "l", "pz", "zlp"} {
				got := holdPut(t, wrap(kinds, holdLift(t, x, from, 1)), a)
				if !equalTerms(got, wrap(kinds, x)) {
					t.Fatalf("%v from %d", x, from)
				}
			}
		}
	}
	r := rand.New(rand.NewSource(34))
	for range 2000 {
		x := randomTerm(r, 1+r.Intn(30), 0)
		by := r.Intn(4)
		got := holdLift(t, x, 0, by)
		for range by {
			got = holdPut(t, got, randomTerm(r, 1+r.Intn(6), 0))
		}
		if !equalTerms(got, x) {
			t.Fatalf("%v by %d", x, by)
		}
	}
}

// bodyOf is the last kid of a binder, by its stretch.
func bodyOf(x impl.Term) impl.Term {
	parts := treeOf(x)
	return parts.kids[len(parts.kids)-1].term()
}

// Promise 3: b for variable 0 and then a for what was 1, or a for 1 first, and
// then b with a in it for 0.
func TestPutTwiceInEitherOrder(t *testing.T) {
	t.Parallel()
	hold := func(c, b, a impl.Term) {
		t.Helper()
		left := holdPut(t, holdPut(t, c, b), a)
		for _, kinds := range []string{"l", "p", "z"} {
			inner := bodyOf(holdPut(t, wrap(kinds, c), a))
			if !equalTerms(left, holdPut(t, inner, holdPut(t, b, a))) {
				t.Fatalf("%v with %v and %v", c, b, a)
			}
		}
	}
	few := fewTerms()
	for _, c := range smallTerms(3, variable(0), variable(1), variable(2)) {
		for _, b := range few {
			for _, a := range few {
				hold(c, b, a)
			}
		}
	}
	r := rand.New(rand.NewSource(35))
	for range 2000 {
		hold(randomTerm(r, 1+r.Intn(14), 0), randomTerm(r, 1+r.Intn(8), 0), randomTerm(r, 1+r.Intn(8), 0))
	}
}

func TestPutAndLiftAndHoles(t *testing.T) {
	r := rand.New(rand.NewSource(36))
	for range 3000 {
		c, a := randomTerm(r, 1+r.Intn(14), 0), randomTerm(r, 1+r.Intn(8), 0)
		by := r.Intn(4)
		left := holdLift(t, holdPut(t, c, a), 0, by)
		if !equalTerms(left, holdPut(t, holdLift(t, c, 1, by), holdLift(t, a, 0, by))) {
			t.Fatalf("%v with %v, lifted by %d", c, a, by)
		}
		x := randomTerm(r, 1+r.Intn(8), 0)
		left = holdPutHole(t, holdPut(t, c, a), 1, x)
		if !equalTerms(left, holdPut(t, holdPutHole(t, c, 1, holdLift(t, x, 0, 1)), holdPutHole(t, a, 1, x))) {
			t.Fatalf("%v with %v, and %v for a hole", c, a, x)
		}
	}
}

func TestPutOfSameTerms(t *testing.T) {
	r := rand.New(rand.NewSource(37))
	u := param("u")
	other := func(x impl.Term) impl.Term {
		y := copyTerm(x)
		for i := range y.Nodes {
			if y.Nodes[i].K == impl.TermLam || y.Nodes[i].K == impl.TermPi {
				y.Nodes[i].S, y.Nodes[i].M = "other", r.Intn(3)
			}
		}
		return y
	}
	for range 2000 {
		b := app(randomTerm(r, 1+r.Intn(12), 0), universe(pair(impl.LevelMax, u, u)))
		a := randomTerm(r, 1+r.Intn(6), 0)
		if !impl.SameTerm(holdPut(t, b, a), holdPut(t, other(b), other(a))) {
			t.Fatalf("%v with %v", b, a)
		}
	}
}

func TestPutHoles(t *testing.T) {
	v := variable
	for i, c := range []struct {
		x    impl.Term
		n    int
		a    impl.Term
		want impl.Term
	}{
		{hole(3), 3, v(0), v(0)},
		{hole(3), 2, v(0), hole(3)},
		{v(3), 3, v(0), v(3)},
		{proj("P", 3, hole(0)), 3, v(0), proj("P", 3, hole(0))},
		{hole(3), -1, v(0), hole(3)},
		{hole(3), impl.MaxHole + 1, v(0), hole(3)},
		{hole(impl.MaxHole), impl.MaxHole, hole(0), hole(0)},
		{app(hole(3), hole(2), hole(3)), 3, app(hole(3), v(0)), app(app(hole(3), v(0)), hole(2), app(hole(3), v(0)))},
		{lam("x", 1, hole(3), app(hole(3), v(0), v(1))), 3, v(0), lam("x", 1, v(0), app(v(1), v(0), v(1)))},
		{let("x", hole(3), hole(3), hole(3)), 3, v(0), let("x", v(0), v(0), v(1))},
		{wrap("lzp", hole(3)), 3, lam("y", 2, v(0), app(v(0), v(1))), wrap("lzp", lam("y", 2, v(3), app(v(0), v(4))))},
	} {
		got, code := impl.PutHole(c.x, c.n, c.a)
		if code != 0 || !equalTerms(got, c.want) {
			t.Errorf("%d: code %d, %v", i, code, got)
		}
	}
}

// holdCode asks for the same of Put and of PutHole: a hole stands in x where
// the variable stands in b.
func holdCode(t *testing.T, what string, b, x, a impl.Term, nodes int) {
	t.Helper()
	got, code := impl.Put(b, a)
	other, second := impl.PutHole(x, 5, a)
	if nodes == 0 {
		if code != impl.CodeSize || second != impl.CodeSize || len(got.Nodes)+len(other.Nodes) != 0 {
			t.Errorf("%s: codes %d and %d", what, code, second)
		}
		return
	}
	if code != 0 || second != 0 || len(got.Nodes) != nodes || !impl.TermOk(got) || !equalTerms(got, other) {
		t.Errorf("%s: codes %d and %d, %d nodes", what, code, second, len(got.Nodes))
	}
}

func TestPutNodes(t *testing.T) {
	great := impl.MaxNodes
	two := app(hole(5), hole(5))
	twice := app(variable(0), variable(0))
	holdCode(t, "once", variable(0), hole(5), projs(great-1, variable(0)), great)
	holdCode(t, "once, one more", projs(1, variable(0)), projs(1, hole(5)), projs(great-1, variable(0)), 0)
	holdCode(t, "twice", projs(1, twice), projs(1, two), projs(9998, variable(0)), great)
	holdCode(t, "twice, less", twice, two, projs(9998, variable(0)), great-1)
	holdCode(t, "twice, more", twice, two, projs(9999, variable(0)), 0)
	holdCode(t, "twice, closed", twice, two, projs(9999, prop()), 0)
	holdCode(t, "under binders", wrap("z", lam("x", 0, prop(), app(variable(2), variable(2)))), wrap("z", lam("x", 0, prop(), two)), projs((great-5-1)/2-1, variable(2)), great)
	holdCode(t, "under binders, more", wrap("z", lam("x", 0, prop(), app(variable(2), variable(2)))), wrap("z", lam("x", 0, prop(), two)), projs((great-5-1)/2, variable(2)), 0)
	holdCode(t, "many places", projs(1, spread(great/2-1, variable(0))), projs(1, spread(great/2-1, hole(5))), variable(3), great)
	holdCode(t, "many places, one of two", projs(1, spread(great/2-1, variable(0))), projs(1, spread(great/2-1, hole(5))), projs(1, variable(3)), 0)
	holdCode(t, "no place", projs(great-1, prop()), projs(great-1, prop()), projs(great-1, prop()), great)
	holdCode(t, "far too great", spread(9999, variable(0)), spread(9999, hole(5)), spread(9999, variable(1)), 0)
	// As many depths as there are places: nothing of it may be made in vain.
	each := func(int) impl.Term { return hole(5) }
	holdCode(t, "all depths", lams(9999, variable, prop()), lams(9999, each, prop()), spread(9999, variable(1)), 0)
	holdCode(t, "all depths, small", lams(9999, variable, prop()), lams(9999, each, prop()), variable(0), 19999)
	some := great/4 - 1
	holdCode(t, "some depths", lams(some, variable, prop()), lams(some, each, prop()), projs(2, variable(0)), 4*some+1)
	holdCode(t, "some depths, more", lams(some+1, variable, prop()), lams(some+1, each, prop()), projs(2, variable(0)), 0)
}

func TestPutTooGreatNumbers(t *testing.T) {
	great := impl.MaxNodes
	p := prop()
	holdCode(t, "at the root", variable(0), hole(5), variable(great), 1)
	holdCode(t, "in a type", lam("x", 0, variable(0), p), lam("x", 0, hole(5), p), variable(great), 3)
	holdCode(t, "under one", lam("x", 0, p, variable(1)), lam("x", 0, p, hole(5)), variable(great), 0)
	holdCode(t, "under one, less", lam("x", 0, p, variable(1)), lam("x", 0, p, hole(5)), variable(great-1), 3)
	holdCode(t, "a let's type and value", let("x", variable(0), variable(0), p), let("x", hole(5), hole(5), p), variable(great), 4)
	holdCode(t, "in a let", let("x", p, p, variable(1)), let("x", p, p, hole(5)), variable(great), 0)
	holdCode(t, "within", pi("x", 0, p, variable(1)), pi("x", 0, p, hole(5)), lam("y", 0, p, variable(great)), 0)
	holdCode(t, "within, bound", pi("x", 0, p, variable(1)), pi("x", 0, p, hole(5)), wideLams(9998, 9997), 2*9998+3)
	holdCode(t, "beside", pi("x", 0, p, variable(1)), pi("x", 0, p, hole(5)), app(p, variable(great)), 0)
	deep := impl.MaxNodes/2 - 1
	holdCode(t, "deep", wideLams(deep, deep), lams(deep, func(int) impl.Term { return p }, hole(5)), variable(great-deep), 2*deep+1)
	holdCode(t, "deep, one more", wideLams(deep, deep), lams(deep, func(int) impl.Term { return p }, hole(5)), variable(great-deep+1), 0)
	// Nothing is put, so nothing is lifted.
	holdCode(t, "nowhere", lam("x", 0, p, variable(0)), lam("x", 0, p, variable(0)), variable(great), 3)
}

func TestPutWrong(t *testing.T) {
	t.Parallel()
	for i, wrong := range wrongTerms() {
		for _, x := range []impl.Term{variable(0), hole(0), prop(), lam("x", 0, prop(), variable(0)), projs(impl.MaxNodes-1, hole(0)), wrong} {
			for _, pair := range [][2]impl.Term{{x, wrong}, {wrong, x}} {
				got, code := impl.Put(pair[0], pair[1])
				other, second := impl.PutHole(pair[0], 0, pair[1])
				if code != impl.CodeInput || second != impl.CodeInput || len(got.Nodes)+len(other.Nodes) != 0 {
					t.Errorf("%d: codes %d and %d", i, code, second)
				}
			}
		}
	}
}

func TestPutParamsOfTerms(t *testing.T) {
	r := rand.New(rand.NewSource(38))
	names := []string{"u", "v", "u"}
	for range 4000 {
		x := randomTerm(r, 1+r.Intn(12), 0)
		a, b := randomLevel(r, 4, []string{"u", "v", "w"}), randomLevel(r, 4, []string{"u", "v", "w"})
		got, code := impl.PutParams(x, names, []impl.Level{a, b, zero()})
		want := copyTerm(x)
		for i := range want.Nodes {
			for k, l := range want.Nodes[i].Levels {
				want.Nodes[i].Levels[k] = putByHand(l, map[string]impl.Level{"u": a, "v": b})
			}
		}
		if code != 0 || !equalTerms(got, want) {
			t.Fatalf("%v: code %d, %v", x, code, got)
		}
		back, code := impl.PutParams(x, nil, nil)
		if code != 0 || !equalTerms(back, x) {
			t.Fatalf("%v: code %d, %v", x, code, back)
		}
	}
}

func TestPutParamsCodes(t *testing.T) {
	u, v := param("u"), param("v")
	six := chain(impl.LevelMax, "a", "b", "c", "d", "e", "f")
	long := succ(u, 40)
	wide := projs(1, spread(impl.MaxNodes/2-1, constant("c", u, v)))
	for i, c := range []struct {
		x      impl.Term
		names  []string
		levels []impl.Level
		code   int
	}{
		{variable(0), []string{"u"}, nil, impl.CodeInput},
		{variable(0), nil, []impl.Level{u}, impl.CodeInput},
		{variable(0), []string{"u"}, []impl.Level{{}}, impl.CodeInput},
		{variable(0), []string{"u", "u"}, []impl.Level{u, {}}, impl.CodeInput},
		{variable(0), []string{"", "no name"}, []impl.Level{u, v}, 0},
		{universe(v), []string{"u"}, []impl.Level{{}}, impl.CodeInput},
		{universe(succ(u, 40)), []string{"u", "v"}, []impl.Level{long, {}}, impl.CodeInput},
		{universe(u), []string{"u"}, []impl.Level{long}, 0},
		{universe(succ(u, 23)), []string{"u"}, []impl.Level{long}, 0},
		{universe(succ(u, 24)), []string{"u"}, []impl.Level{long}, impl.CodeSize},
		{universe(succ(u, 24)), []string{"v"}, []impl.Level{long}, 0},
		{constant("c", u, succ(u, 24)), []string{"u"}, []impl.Level{long}, impl.CodeSize},
		{constant("c", succ(u, 24), u), []string{"u"}, []impl.Level{long}, impl.CodeSize},
		{app(variable(0), lam("x", 0, prop(), universe(succ(u, 24)))), []string{"u"}, []impl.Level{long}, impl.CodeSize},
		{universe(six), []string{"a"}, []impl.Level{param("g")}, 0},
		{universe(six), []string{"a"}, []impl.Level{chain(impl.LevelMax, "a", "g")}, impl.CodeSize},
		{app(universe(six), universe(param("g"))), []string{"g"}, []impl.Level{param("h")}, 0},
		{wide, []string{"u", "v"}, []impl.Level{v, u}, 0},
	} {
		got, code := impl.PutParams(c.x, c.names, c.levels)
		if code != c.code || code != 0 && len(got.Nodes) != 0 || code == 0 && !impl.TermOk(got) {
			t.Errorf("%d: code %d for %d", i, code, c.code)
		}
	}
	for i, x := range wrongTerms() {
		if got, code := impl.PutParams(x, nil, nil); code != impl.CodeInput || len(got.Nodes) != 0 {
			t.Errorf("%d: code %d", i, code)
		}
	}
	for i, l := range wrongLevels() {
		if got, code := impl.PutParams(prop(), []string{"u"}, []impl.Level{l}); code != impl.CodeInput || len(got.Nodes) != 0 {
			t.Errorf("level %d: code %d", i, code)
		}
	}
	if got, _ := impl.PutParams(wide, []string{"u", "v"}, []impl.Level{v, u}); !slices.Equal(impl.LevelsOf(got), []string{"u", "v"}) || !sameNodes(got.Nodes[0].Levels[0], v) {
		t.Errorf("both at once")
	}
}
