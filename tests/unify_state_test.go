package tests

import (
	"strconv"
	"strings"
	"testing"

	"loop.example/g00005/impl"
)

// holdState holds whether a state is valid; where it is not, no call takes it.
func holdState(t *testing.T, what string, e impl.Env, s impl.State, want bool) {
	t.Helper()
	before := copyState(s)
	if impl.StateOk(e, s) != want {
		t.Errorf("%s: not %v\n%s", what, want, stateText(s))
	}
	code := 0
	if !want {
		code = impl.CodeInput
	}
	unify := unifyAsk{s, nil, read("Nat"), read("Nat")}
	if after, work, got := unify.ask(e, 100); got != code || work != 1-min(code, 1) || !equalStates(after, emptyUnless(want, s)) {
		t.Errorf("%s: Unify: work %d, code %d\n%s", what, work, got, stateText(after))
	}
	if !want {
		unifyAsk{s: s}.hold(t, e, 100, impl.State{}, 0, code)
	}
	if !equalStates(before, s) {
		t.Errorf("%s: the state was changed", what)
	}
}

func emptyUnless(kept bool, s impl.State) impl.State {
	if kept {
		return s
	}
	return impl.State{}
}

func TestStateOk(t *testing.T) {
	e := unifyEnv()
	for _, list := range [][]string{
		nil,
		texts("Nat"),
		texts("Nat := two", "Fun"),
		texts("?0"), texts("?1", "?0"), texts("[! x 0 ?1 ?0]", "*_0", "_"),
		texts("Nat := ?1", "Nat := ?2", "Nat"),
		texts("Nat", "Nat := [f ?0]", "Nat := [[f ?0] ?1]"),
		texts("?0 := two"), texts("?1 := ?2", "?0", "[?0 ?1]"),
		texts("_"), texts("_ := 0"), texts("_ := _1", "_ := _2+1", "_"), texts("_", "_ := max(_0,imax(_0,u))"),
		texts("*_0 := *_0", "_"), texts("Nat := [id{_1} ?1]", "*_0", "_", "_ := _0"),
		texts("two = three"), texts("Nat", "?0 = [f ?0]", "?0 = ?0"),
		texts("*_0 = *_0+1", "_"), texts("*_00 = *_01", "*_ = *_0a", "*__0 = *a_0"),
		texts("*_00", "*_01", "_ := _00+1"), texts("Nat.zero"), texts("two := [Nat.zero two]"),
	} {
		holdState(t, strings.Join(list, "; "), e, stateOf(list...), true)
	}
	for _, list := range [][]string{
		texts("#0"), texts("Nat := #0"), texts("Nat", "Nat := [^ x 0 Nat #1]"), texts("Nat := Nut"), texts("nat"), texts("[id Nat]"),
		texts("[id{1,2} Nat]"), texts("[. Prod 2 two]"), texts("[. Nat 0 two]"),
		texts("?1"), texts("Nat := ?1"), texts("Nat", "[f ?2]"), texts("?5", "Nat"), texts("Nat := ?5", "Nat", "two = two"), texts("Nat", "?5 = two", "two = two"), texts("?1000000"), texts("Nat := [f ?1000000]"),
		texts("*_0"), texts("*_1", "_"), texts("Nat := [id{_0} Nat]"), texts("*max(u,_10)", "_"), texts("*_99999999999999999999999999999999999999", "_"),
		texts("_ := _1"), texts("_ := max(1,_1)"), texts("_ := _7"), texts("_ := _18446744073709551616", "_"),
		texts("?0 = two"), texts("Nat", "two = ?1"), texts("*_0 = *1"), texts("*1 = *_1", "_"),
		texts("#0 = two"), texts("two = #0"), texts("nat = two"), texts("two = nat"),
		// a hole in its own Value, or in what that becomes
		texts("Nat := ?0"), texts("Nat := [Nat.succ ?0]"), texts("Nat := [[^ x 0 Nat two] ?0]"),
		texts("Nat := ?1", "Nat := ?0"), texts("Nat := ?1", "Nat := [f ?2]", "Nat := [Nat.succ ?0]"),
		texts("Nat", "Nat := [f ?2]", "Nat := [f ?1]"), texts("Nat := [?1 ?0]", "Fun := [^ x 0 Nat two]"), texts("Nat := [?1 ?2]", "Fun := [^ x 0 Nat two]", "Nat := ?0"),
		// and level holes
		texts("_ := _0"), texts("_ := _0+1"), texts("_ := max(1,_0)"), texts("_ := imax(_0,0)"), texts("_ := _1", "_ := _0"),
		texts("_", "_ := _2", "_ := max(_3,1)", "_ := _1+1"),
	} {
		holdState(t, strings.Join(list, "; "), e, stateOf(list...), false)
	}
}

func TestStateOkEnvironment(t *testing.T) {
	s := stateOf("Nat", "two = two")
	holdState(t, "no environment", impl.Env{}, s, false)
	broken := behind(unifyEnv(), declared(impl.KindAxiom, "two", "", "Nat", ""))
	if impl.StateOk(broken, impl.State{}) || impl.StateOk(broken, s) {
		t.Errorf("valid in an environment that is not")
	}
	if !impl.StateOk(impl.Env{}, impl.State{}) || !impl.StateOk(impl.Env{}, stateOf("*_0", "_", "*1 = ?0")) {
		t.Errorf("not valid in the environment without a declaration")
	}
}

func TestStateOkTerms(t *testing.T) {
	e := unifyEnv()
	for i, x := range wrongTerms() {
		what := "term " + strconv.Itoa(i)
		s := stateOf("Nat")
		s.Holes[0].Type = x
		holdState(t, what+" as type", e, s, false)
		s = stateOf("Nat")
		s.Holes[0].Value = x
		// without a node the hole is open
		holdState(t, what+" as value", e, s, len(x.Nodes) == 0)
		for place := range 3 {
			s = stateIn(contextOf("Nat"), "|- two = two")
			p := &s.Later[0]
			*[]*impl.Term{&p.Ctx[0], &p.A, &p.B}[place] = x
			holdState(t, what+" in a pair", e, s, false)
		}
	}
	for i, l := range wrongLevels() {
		s := stateOf("_", "_")
		s.Levels[1] = l
		holdState(t, "level "+strconv.Itoa(i), e, s, len(l.Nodes) == 0)
	}
}

// A context's type may have the variables in front of it, and the terms all of
// them.
func TestStateOkContexts(t *testing.T) {
	e := unifyEnv()
	for _, c := range []struct {
		ctx  []string
		a, b string
		want bool
	}{
		{texts("*1", "#0", "[! x 0 #1 #2]"), "[#0 #1]", "#1", true},
		{texts("*1", "#1"), "two", "two", false},
		{texts("#0"), "two", "two", false},
		{texts("Nat", "Nat"), "#2", "two", false},
		{texts("Nat", "Nat"), "two", "#2", false},
		{texts("Nat", "Nat"), "#0", "[^ x 0 Nat #2]", true},
		{texts("Nat", "?0"), "two", "two", true},
		{texts("Nat", "?1"), "two", "two", false},
		{texts("Nat", "*_0"), "two", "two", true},
		{texts("Nat", "*_1"), "two", "two", false},
	} {
		s := stateOf("*1", "_")
		s.Later = []impl.Pair{{Ctx: contextOf(c.ctx...), A: read(c.a), B: read(c.b)}}
		holdState(t, strings.Join(c.ctx, ", "), e, s, c.want)
	}
}

func TestStateOkNumbers(t *testing.T) {
	e := unifyEnv()
	for _, c := range []struct {
		count int
		want  bool
	}{{impl.MaxHoles, true}, {impl.MaxHoles + 1, false}} {
		var holes, levels, pairs impl.State
		for range c.count {
			holes.Holes = append(holes.Holes, impl.Hole{Type: read("Nat")})
			levels.Levels = append(levels.Levels, impl.Level{})
			pairs.Later = append(pairs.Later, impl.Pair{A: read("two"), B: read("two")})
		}
		for _, s := range []impl.State{holes, levels, pairs} {
			holdState(t, strconv.Itoa(c.count), e, s, c.want)
		}
	}
	for _, c := range []struct {
		count int
		want  bool
	}{{impl.MaxCtx, true}, {impl.MaxCtx + 1, false}} {
		p := impl.Pair{A: variable(c.count - 1), B: variable(0)}
		for range c.count {
			p.Ctx = append(p.Ctx, read("Nat"))
		}
		holdState(t, strconv.Itoa(c.count), e, impl.State{Later: []impl.Pair{p}}, c.want)
	}
	// a chain through all holes, and a ring
	var chain, ring impl.State
	for i := range impl.MaxHoles {
		chain.Holes = append(chain.Holes, impl.Hole{Type: read("Nat"), Value: app(read("Nat.succ"), hole((i+1)%impl.MaxHoles))})
		level, _ := impl.ParseLevel("_" + strconv.Itoa((i+1)%impl.MaxHoles))
		ring.Levels = append(ring.Levels, level)
	}
	holdState(t, "a ring", e, chain, false)
	holdState(t, "a ring of levels", e, ring, false)
	last := impl.MaxHoles - 1
	chain.Holes[last].Value, ring.Levels[last] = impl.Term{}, impl.Level{}
	holdState(t, "a chain", e, chain, true)
	holdState(t, "a chain of levels", e, ring, true)
}

// What Unify is handed must be known for its context, with holes that are there.
func TestUnifyInput(t *testing.T) {
	e := unifyEnv()
	s := stateOf("Nat", "*1 := Nat", "_", "_ := 2")
	good := unifyAsk{s, contextOf("Nat", "?1", "*_0"), read("[f #2]"), read("[f #2]")}
	good.hold(t, e, 9, s, 1, 0)
	for _, c := range []struct {
		ctx  []string
		a, b string
	}{
		{texts("Nat"), "#1", "two"}, {texts("Nat"), "two", "#1"}, {nil, "#0", "#0"},
		{texts("Nut"), "two", "two"}, {texts("#0"), "two", "two"}, {texts("Nat", "#1"), "two", "two"},
		{nil, "nut", "nut"}, {nil, "two", "nut"}, {nil, "id", "id"}, {nil, "[. Nat 0 two]", "[. Nat 0 two]"},
		{nil, "?2", "?2"}, {nil, "two", "?2"}, {texts("?2"), "two", "two"}, {nil, "[f ?1000000]", "two"},
		{nil, "*_2", "*_2"}, {nil, "*1", "*_2"}, {texts("*_2"), "two", "two"}, {nil, "[id{_2} Nat]", "two"}, {nil, "*max(1,_4000000000)", "*1"},
	} {
		unifyAsk{s, contextOf(c.ctx...), read(c.a), read(c.b)}.hold(t, e, 9, impl.State{}, 0, impl.CodeInput)
	}
	for _, x := range wrongTerms() {
		for place := range 3 {
			q := unifyAsk{s, contextOf("Nat"), read("two"), read("two")}
			*[]*impl.Term{&q.ctx[0], &q.a, &q.b}[place] = x
			after, work, code := impl.Unify(e, q.s, q.ctx, q.a, q.b, 9)
			if code != impl.CodeInput || work != 0 || !equalStates(after, impl.State{}) {
				t.Errorf("a term that is not valid: work %d, code %d", work, code)
			}
		}
	}
	q := unifyAsk{s: s, a: read("two"), b: read("two")}
	for range impl.MaxCtx {
		q.ctx = append(q.ctx, read("Nat"))
	}
	q.hold(t, e, 9, s, 1, 0)
	q.ctx = append(q.ctx, read("Nat"))
	q.hold(t, e, 9, impl.State{}, 0, impl.CodeInput)
}
