package tests

import (
	"math/rand"
	"slices"
	"testing"

	"loop.example/g00005/impl"
)

func TestSpines(t *testing.T) {
	v := variable
	inner := app(v(0), v(1))
	for i, c := range []struct {
		x, head impl.Term
		args    []impl.Term
	}{
		{v(0), v(0), nil},
		{prop(), prop(), nil},
		{lam("x", 1, v(0), inner), lam("x", 1, v(0), inner), nil},
		{let("x", v(0), v(0), inner), let("x", v(0), v(0), inner), nil},
		{proj("P", 0, inner), proj("P", 0, inner), nil},
		{inner, v(0), []impl.Term{v(1)}},
		{app(v(0), v(1), v(2)), v(0), []impl.Term{v(1), v(2)}},
		{app(v(0), inner), v(0), []impl.Term{inner}},
		{app(v(0), app(v(1), v(2)), inner), v(0), []impl.Term{app(v(1), v(2)), inner}},
		{app(proj("P", 1, inner), inner, hole(2)), proj("P", 1, inner), []impl.Term{inner, hole(2)}},
		{app(lam("x", 2, prop(), inner), constant("c", param("u"), zero())), lam("x", 2, prop(), inner), []impl.Term{constant("c", param("u"), zero())}},
	} {
		head, args := impl.Spine(c.x)
		if !equalTerms(head, c.head) || !equalLists(args, c.args) {
			t.Errorf("%d: %v, %v", i, head, args)
		}
		back, code := impl.Apply(c.head, c.args)
		if code != 0 || !equalTerms(back, c.x) {
			t.Errorf("%d: code %d, %v", i, code, back)
		}
	}
}

func TestApplyOfSpine(t *testing.T) {
	r := rand.New(rand.NewSource(39))
	few := fewTerms()
	for range 3000 {
		x := randomTerm(r, 1+r.Intn(10), 0)
		for range r.Intn(4) {
			x = app(x, few[r.Intn(len(few))])
		}
		head, args := impl.Spine(x)
		if head.Nodes[len(head.Nodes)-1].K == impl.TermApp {
			t.Fatalf("%v has the head %v", x, head)
		}
		back, code := impl.Apply(head, args)
		if code != 0 || !equalTerms(back, x) {
			t.Fatalf("%v: code %d, %v", x, code, back)
		}
		// An applied term has the arguments of what is applied, too.
		more, code := impl.Apply(x, few)
		if code != 0 || !equalTerms(more, app(x, few...)) {
			t.Fatalf("%v: code %d", x, code)
		}
		if h, all := impl.Spine(more); !equalTerms(h, head) || !equalLists(all, slices.Concat(args, few)) {
			t.Fatalf("%v: %v, %v", more, h, all)
		}
	}
}

func TestSpineGreat(t *testing.T) {
	count := impl.MaxNodes/2 - 1
	head, args := impl.Spine(spread(count, constant("c", param("u"))))
	if !equalTerms(head, constant("c", param("u"))) || len(args) != count {
		t.Errorf("%v, %d", head, len(args))
	}
	right := impl.Term{}
	for i := range count {
		right.Nodes = append(right.Nodes, impl.Node{K: impl.TermVar, N: i})
	}
	right.Nodes = append(right.Nodes, impl.Node{K: impl.TermHole})
	for i := range count {
		right.Nodes = append(right.Nodes, impl.Node{K: impl.TermApp, Kids: []int{count - 1 - i, len(right.Nodes) - 1}})
	}
	head, args = impl.Spine(right)
	if !equalTerms(head, variable(0)) || len(args) != 1 || len(args[0].Nodes) != len(right.Nodes)-2 || !impl.TermOk(args[0]) {
		t.Errorf("%v, %d", head, len(args))
	}
}

func TestApplyCodes(t *testing.T) {
	great := impl.MaxNodes
	full := projs(great-1, prop())
	for i, c := range []struct {
		f    impl.Term
		args []impl.Term
		code int
	}{
		{full, nil, 0},
		{full, []impl.Term{prop()}, impl.CodeSize},
		{prop(), []impl.Term{full}, impl.CodeSize},
		{prop(), []impl.Term{projs(great-3, prop())}, 0},
		{prop(), []impl.Term{projs(great-2, prop())}, impl.CodeSize},
		{projs(great-3, prop()), []impl.Term{prop()}, 0},
		{projs(great-2, prop()), []impl.Term{prop()}, impl.CodeSize},
		{projs(1, prop()), slices.Repeat([]impl.Term{hole(1)}, great/2-1), 0},
		{prop(), slices.Repeat([]impl.Term{hole(1)}, great/2), impl.CodeSize},
		{prop(), slices.Repeat([]impl.Term{hole(1)}, 3*great), impl.CodeSize},
		{prop(), append(slices.Repeat([]impl.Term{hole(1)}, 3*great), variable(-1)), impl.CodeInput},
		{full, []impl.Term{prop(), {}}, impl.CodeInput},
		{variable(great + 1), []impl.Term{full, full}, impl.CodeInput},
	} {
		got, code := impl.Apply(c.f, c.args)
		if code != c.code || code != 0 && len(got.Nodes) != 0 || code == 0 && !impl.TermOk(got) {
			t.Errorf("%d: code %d for %d", i, code, c.code)
		}
	}
}

func TestSpineAndApplyWrong(t *testing.T) {
	for i, wrong := range wrongTerms() {
		if head, args := impl.Spine(wrong); len(head.Nodes) != 0 || len(args) != 0 {
			t.Errorf("%d has a spine", i)
		}
		for _, c := range [][]impl.Term{{wrong}, {wrong, prop()}, {prop(), wrong}, {prop(), wrong, prop()}, {prop(), prop(), wrong}} {
			if got, code := impl.Apply(c[0], c[1:]); code != impl.CodeInput || len(got.Nodes) != 0 {
				t.Errorf("%d: code %d", i, code)
			}
		}
	}
}

func TestHolesOfTerms(t *testing.T) {
	for i, c := range []struct {
		x    impl.Term
		want []int
	}{
		{prop(), nil},
		{variable(4), nil},
		{proj("P", 4, prop()), nil},
		{hole(0), []int{0}},
		{hole(impl.MaxHole), []int{impl.MaxHole}},
		{app(hole(7), hole(2), hole(7)), []int{2, 7}},
		{app(hole(10), hole(9), hole(100), hole(10), hole(0)), []int{0, 9, 10, 100}},
		{lam("x", 0, hole(3), hole(1)), []int{1, 3}},
		{let("x", hole(3), hole(1), proj("P", 9, hole(2))), []int{1, 2, 3}},
	} {
		if got := impl.HolesOf(c.x); !slices.Equal(got, c.want) {
			t.Errorf("%d: %v", i, got)
		}
	}
	var many []impl.Term
	var want []int
	for i := range impl.MaxNodes/2 - 1 {
		many = append(many, hole(impl.MaxHole-i))
		want = append(want, impl.MaxHole-impl.MaxNodes/2+2+i)
	}
	x, code := impl.Apply(prop(), many)
	if code != 0 || !slices.Equal(impl.HolesOf(x), want) {
		t.Errorf("many")
	}
}

func TestLevelsOfTerms(t *testing.T) {
	for i, c := range []struct {
		x    impl.Term
		want []string
	}{
		{prop(), nil},
		{constant("u"), nil},
		{lam("u", 0, variable(0), proj("v", 0, hole(1))), nil},
		{universe(succ(param("u"), 3)), []string{"u"}},
		{universe(chain(impl.LevelImax, "w", "u", "v", "u")), []string{"u", "v", "w"}},
		{constant("c", param("b"), param("a")), []string{"a", "b"}},
		{constant("c", param("a"), zero(), param("a")), []string{"a"}},
		{app(universe(param("b")), universe(param("a")), universe(param("b"))), []string{"a", "b"}},
		{let("x", universe(param("z")), universe(param("B")), universe(param("_"))), []string{"B", "_", "z"}},
		{constant("c", param("a1"), param("a'"), param("a"), param("aa"), param("aB"), param("a_")), []string{"a", "a'", "a1", "aB", "a_", "aa"}},
		{app(universe(chain(impl.LevelMax, "a", "b", "c", "d", "e", "f")), universe(chain(impl.LevelMax, "g", "f", "h"))), []string{"a", "b", "c", "d", "e", "f", "g", "h"}},
	} {
		if got := impl.LevelsOf(c.x); !slices.Equal(got, c.want) {
			t.Errorf("%d: %v", i, got)
		}
	}
}

func TestHolesAndLevelsOfRandomTerms(t *testing.T) {
	r := rand.New(rand.NewSource(40))
	for range 3000 {
		x := randomTerm(r, 1+r.Intn(15), 0)
		holes, names := map[int]int{}, map[string]int{}
		for _, n := range x.Nodes {
			if n.K == impl.TermHole {
				holes[n.N]++
			}
			for _, l := range n.Levels {
				for _, part := range l.Nodes {
					if part.K == impl.LevelParam {
						names[part.S]++
					}
				}
			}
		}
		gotHoles, gotNames := impl.HolesOf(x), impl.LevelsOf(x)
		if len(gotHoles) != len(holes) || !slices.IsSorted(gotHoles) || len(gotNames) != len(names) || !slices.IsSorted(gotNames) {
			t.Fatalf("%v: %v, %v", x, gotHoles, gotNames)
		}
		for _, n := range gotHoles {
			if holes[n] == 0 {
				t.Fatalf("%v has no hole %d", x, n)
			}
		}
		for _, name := range gotNames {
			if names[name] == 0 {
				t.Fatalf("%v has no %s", x, name)
			}
		}
	}
}

func TestHolesAndLevelsWrong(t *testing.T) {
	wrong := append(wrongTerms(), app(hole(1), universe(param("u")), variable(-1)), app(variable(-1), hole(1), universe(param("u"))))
	for i, x := range wrong {
		if len(impl.HolesOf(x)) != 0 || len(impl.LevelsOf(x)) != 0 {
			t.Errorf("%d has none", i)
		}
	}
}
