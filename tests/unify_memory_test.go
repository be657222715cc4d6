package tests

import (
	"math/rand"
	"slices"
	"sync"
	"testing"

	"loop.example/g00005/impl"
)

// stateSpans are all lists of a state.
func stateSpans(s impl.State) []span {
	var spans []span
	spans = addSpan(addSpan(spans, s.Holes), s.Later)
	for _, h := range s.Holes {
		spans = termSpans(spans, h.Type, h.Value)
	}
	spans = levelSpans(spans, s.Levels)
	for _, p := range s.Later {
		spans = termSpans(termSpans(addSpan(spans, p.Ctx), p.Ctx...), p.A, p.B)
	}
	return spans
}

// richState has a bit of everything, and room behind each list.
func richState(ctx []impl.Term) impl.State {
	s := stateIn(ctx, "Nat := [Nat.succ ?1]", "Nat", "Fun", "Op := f", "*max(_0,_1)", "_", "_ := max(_2,3)", "_ := 2", "_", "|- [?2 two] = [f #4]", "*max(_0,_3) = *3", "|- [?2 ?0] = #4")
	s.Holes[1].Class = true
	s.Holes = append(make([]impl.Hole, 0, len(s.Holes)+4), s.Holes...)
	s.Levels = append(make([]impl.Level, 0, len(s.Levels)+4), s.Levels...)
	s.Later = append(make([]impl.Pair, 0, len(s.Later)+4), s.Later...)
	for i, h := range s.Holes {
		s.Holes[i].Type = withRoom(h.Type)
		if len(h.Value.Nodes) > 0 {
			s.Holes[i].Value = withRoom(h.Value)
		}
	}
	return s
}

// untouched says whether nothing was put behind the lists of richState.
func untouched(s impl.State) bool {
	if h := s.Holes[:len(s.Holes)+1][len(s.Holes)]; len(h.Type.Nodes) > 0 || len(h.Value.Nodes) > 0 {
		return false
	}
	if len(s.Levels[:len(s.Levels)+1][len(s.Levels)].Nodes) > 0 || len(s.Later[:len(s.Later)+1][len(s.Later)].A.Nodes) > 0 {
		return false
	}
	return !slices.ContainsFunc(s.Holes, func(h impl.Hole) bool {
		return behindNodes(h.Type) != 0 || len(h.Value.Nodes) > 0 && behindNodes(h.Value) != 0
	})
}

// No answer shares memory with an argument, nor do two lists of one answer, and
// nothing is written into an argument.
func TestUnifyMemory(t *testing.T) {
	e := unifyEnv()
	env := copyEnv(e)
	for _, c := range []struct{ a, b string }{
		{"two", "two"}, {"?1", "[Nat.succ two]"}, {"[[?3 ?1] #4]", "[[f two] #4]"}, {"[?2 #4]", "[[f #4] ?0]"}, {"[?2 ?1]", "[Nat.succ #4]"}, {"*_0", "*max(_3,1)"}, {"*max(_0,_2)", "*max(_3,4)"},
		{"[[poly{_0,_1} Nat] Nat]", "[[poly{_3,max(_0,4)} Nat] Nat]"}, {"[double ?1]", "four"},
	} {
		ctx := append(make([]impl.Term, 0, 9), unifyContext()...)
		s := richState(ctx)
		before, held := copyState(s), copyTerms(ctx)
		a, b := withRoom(read(c.a)), withRoom(read(c.b))
		given := append(stateSpans(s), termSpans(addSpan(nil, ctx), slices.Concat(ctx, []impl.Term{a, b})...)...)
		after, _, code := impl.Unify(e, s, ctx, a, b, 1000)
		last, _, _ := impl.Settle(e, s, 1000)
		made, _ := impl.Universes(s)
		filled, _ := impl.Fill(s, a)
		kept = append(kept, s, ctx, a, b, after, last, made, filled)
		if code != 0 {
			t.Errorf("%s and %s: code %d", c.a, c.b, code)
		}
		spans := append(given, stateSpans(after)...)
		spans = append(append(append(spans, stateSpans(last)...), stateSpans(made)...), termSpans(nil, filled)...)
		holdApart(t, c.a+" and "+c.b, spans)
		if !equalStates(before, s) || !equalLists(held, ctx) || written(a) != c.a || written(b) != c.b {
			t.Errorf("%s and %s: an argument was changed", c.a, c.b)
		}
		if !untouched(s) || behindNodes(a) != 0 || behindNodes(b) != 0 || len(ctx[:len(ctx)+1][len(ctx)].Nodes) > 0 {
			t.Errorf("%s and %s: something was put behind an argument", c.a, c.b)
		}
	}
	if !equalEnvs(e, env) {
		t.Errorf("the environment was changed")
	}
}

// Universes and StateOk leave what they are given, too.
func TestUniversesMemory(t *testing.T) {
	s := stateOf("Nat := two", "*_0", "_", "_ := _0+1", "_", "*_0 = *2", "?1 = ?1", "*max(_0,_2) = *_2")
	before := copyState(s)
	got, code := impl.Universes(s)
	kept = append(kept, s, got)
	if code != 0 || !equalStates(got, stateOf("Nat := two", "*_0", "_ := 2", "_ := _0+1", "_ := 2", "?1 = ?1")) {
		t.Errorf("code %d\n%s", code, stateText(got))
	}
	holdApart(t, "Universes", append(stateSpans(s), stateSpans(got)...))
	if !impl.StateOk(unifyEnv(), s) || !equalStates(before, s) {
		t.Errorf("the state was changed")
	}
}

// What an answer is changed to makes no difference to the next one.
func TestUnifyAskedAgain(t *testing.T) {
	e, ctx := unifyEnv(), unifyContext()
	q := unifyAsk{stateOf("Fun", "_"), ctx, read("[?0 #4]"), read("[[f #4] two]")}
	want := stateOf("Fun := [^ n 2 Nat [[f #0] two]]", "_")
	for range 3 {
		q.hold(t, e, 100, want, 5, 0)
		q.hold(t, e, 4, impl.State{}, 4, impl.CodeFuel)
		got, _, _ := q.ask(e, 100)
		got.Holes[0].Type.Nodes[0].S, got.Holes[0].Value.Nodes[0].S = "x", "y"
		// the same names for other things
		other := behind(stepEnv(), declared(impl.KindAxiom, "f", "", "[! a 0 Nat [! b 0 Nat Nat]]", ""), declared(impl.KindDef, "Fun", "", "*1", "Nat"))
		q.hold(t, other, 100, impl.State{}, 2, impl.CodeUnify)
	}
}

// Several may ask at the same time; each is told the same.
func TestUnifyAskedBySeveral(t *testing.T) {
	e, ctx := unifyEnv(), unifyContext()
	s := stateOf("Fun", "_", "[?0 two] = [Nat.succ two]", "*max(_0,1) = *_0")
	var wait sync.WaitGroup
	for range 4 {
		wait.Go(func() {
			for range 3 {
				(unifyAsk{s, ctx, read("[?0 #4]"), read("[Nat.succ #4]")}).hold(t, e, 100, stateOf("Fun := [^ n 2 Nat [Nat.succ #0]]", "_", "[?0 two] = [Nat.succ two]", "*max(_0,1) = *_0"), 5, 0)
				(unifyAsk{s: s}).hold(t, e, 100, s, 2, 0)
				holdUniverses(t, s, stateOf("Fun", "_ := 1", "[?0 two] = [Nat.succ two]"), 0)
				holdFill(t, s, read("[?0 two]"), "[?0 two]", 0)
			}
		})
	}
	wait.Wait()
}

// Promise 11, with drawn terms: more fuel changes nothing but CodeFuel.
func TestUnifyWithMoreFuel(t *testing.T) {
	t.Parallel()
	r := rand.New(rand.NewSource(152))
	m := &unifyMaker{r}
	e := unifyEnv()
	for range 200 {
		s, uses := m.state()
		a, b := m.terms(uses)
		q := unifyAsk{s, unifyContext(), a, b}
		want, work, code := q.ask(e, 2000)
		if code == impl.CodeFuel {
			continue
		}
		q.hold(t, e, impl.MaxFuel, want, work, code)
		q.hold(t, e, work, want, work, code)
		for range 3 {
			less := r.Intn(max(work, 1))
			if less < work {
				q.hold(t, e, less, impl.State{}, less, impl.CodeFuel)
			}
		}
	}
}
