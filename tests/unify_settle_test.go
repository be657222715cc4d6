package tests

import (
	"testing"

	"loop.example/g00005/impl"
)

func TestSettle(t *testing.T) {
	e := unifyEnv()
	w := slowStepsIn(e)
	ctx := unifyContext()
	for _, c := range []struct {
		state []string
		after []string
		work  int
		code  int
	}{
		{nil, nil, 0, 0},
		{texts("Nat", "_", "Nat := two"), texts("Nat", "_", "Nat := two"), 0, 0},
		{texts("two = two"), nil, 1, 0},
		{texts("two = three"), nil, 7, impl.CodeUnify},
		{texts("[Nat.zero two] = two"), nil, 1, impl.CodeFun},
		{texts("Nat", "?0 = two"), texts("Nat := two"), 2, 0},
		{texts("Nat", "two = ?0"), texts("Nat := two"), 2, 0},
		{texts("Fun", "|- [?0 #4] = [[f #4] #4]"), texts("Fun := [^ n 2 Nat [[f #0] #0]]"), 5, 0},
		{texts("Fun", "|- [?0 #4] = #3"), nil, 1, impl.CodeUnify},
		// one after the other
		{texts("Nat", "Nat", "[[add two] ?0] = ?1", "?0 = Nat.zero", "[[add ?1] ?0] = two"), texts("Nat := Nat.zero", "Nat := [[add two] ?0]"), 16, 0},
		{texts("Nat", "?0 = two", "?0 = three"), nil, 9, impl.CodeUnify},
		// what can be done only behind others
		{texts("Nat", "Fun", "[?1 ?0] = [Nat.succ two]", "?1 = Nat.succ"), texts("Nat := two", "Fun := Nat.succ"), 8, 0},
		{texts("Fun", "Fun", "[?0 two] = four", "?0 = ?1", "[?1 two] = [double two]", "?1 = double"), texts("Fun := ?1", "Fun := double"), 14, 0},
		{texts("Fun", "Fun", "Nat", "[?0 two] = [[add two] ?2]", "[?1 two] = three", "?1 = Nat.succ"), texts("Fun", "Fun := Nat.succ", "Nat", "[?0 two] = [[add two] ?2]"), 10, 0},
		{texts("[[Prod{0,0} Nat] Nat]", "[. Prod 0 ?0] = two", "?0 = [[[[Prod.mk{0,0} Nat] Nat] two] one]"), texts("[[Prod{0,0} Nat] Nat] := [[[[Prod.mk{0,0} Nat] Nat] two] one]"), 8, 0},
		{texts("Fun", "[?0 two] = two", "?0 = Nat.succ"), nil, 11, impl.CodeUnify},
		// rounds that change nothing
		{texts("Fun", "[?0 two] = three", "[?0 one] = two"), texts("Fun", "[?0 two] = three", "[?0 one] = two"), 2, 0},
		{texts("Fun", "Nat", "[?0 two] = three", "?1 = two"), texts("Fun", "Nat := two", "[?0 two] = three"), 4, 0},
		{texts("Fun", "|- [?0 two] = [[f #4] #3]"), texts("Fun", "|- [?0 two] = [[f #4] #3]"), 1, 0},
		// levels
		{texts("_", "_", "*max(_0,_1) = *2", "*_0 = *1"), texts("_ := 1", "_", "*max(1,_1) = *2"), 3, 0},
		{texts("_", "*max(_0,1) = *2", "*_0 = *2"), texts("_ := 2"), 3, 0},
		{texts("_", "*max(_0,1) = *2", "*_0 = *3"), nil, 4, impl.CodeUnify},
		{texts("_", "*_0+1 = *_0"), texts("_", "*_0+1 = *_0"), 1, 0},
		{texts("*2 = *3"), nil, 2, impl.CodeUnify},
		{texts("_", "|- *_0+2 = *_0+1"), texts("_", "*_0+1 = *_0"), 1, 0},
	} {
		unifyAsk{s: stateIn(ctx, c.state...)}.holdEvery(t, w, stateIn(ctx, c.after...), c.work, c.code)
	}
}

// A pair's context is filled when the pair is put off again.
func TestSettleContexts(t *testing.T) {
	e := unifyEnv()
	w := slowStepsIn(e)
	s := stateOf("*1", "Fun", "?0 = Nat", "[?1 two] = one")
	s.Later = append(s.Later, impl.Pair{Ctx: contextOf("?0", "[! x 0 ?0 ?0]"), A: read("[?1 two]"), B: read("[#0 #1]")})
	want := stateOf("*1 := Nat", "Fun", "[?1 two] = one")
	want.Later = append(want.Later, impl.Pair{Ctx: contextOf("Nat", "[! x 0 Nat Nat]"), A: read("[?1 two]"), B: read("[#0 #1]")})
	unifyAsk{s: s}.holdEvery(t, w, want, 6, 0)
}

// The types of variables may be holes, too: they are those that are known.
func TestUnifyContexts(t *testing.T) {
	e := unifyEnv()
	w := slowStepsIn(e)
	for _, c := range []struct {
		ctx   []string
		a, b  string
		state []string
		after []string
		work  int
		code  int
	}{
		// all terms of the type are one, once it is known
		{texts("?0", "?0"), "#0", "#1", texts("*1 := Unit"), texts("*1 := Unit"), 2, 0},
		{texts("?0", "?0"), "#0", "#1", texts("*1 := Nat"), nil, 2, impl.CodeUnify},
		{texts("?0", "?0"), "#0", "#1", texts("*1"), nil, 2, impl.CodeUnify},
		{texts("?0", "?0"), "#0", "#1", texts("*0"), texts("*0"), 2, 0},
		{texts("?0", "?0"), "#0", "#1", texts("?1 := True", "*0"), texts("?1 := True", "*0"), 2, 0},
		// what the type of a hole is hangs on other holes
		{texts("?0", "?0"), "#0", "#1", texts("?1", "*1 := *0"), texts("?1", "*1 := *0"), 2, 0},
		{texts("?0", "?0"), "#0", "#1", texts("?1", "*1"), nil, 2, impl.CodeSort},
		{texts("[?0 two]"), "[#0 two]", "[#0 one]", texts("[! n 0 Nat *1]"), nil, 1, impl.CodeFun},
		{texts("[?0 two]"), "[#0 two]", "[#0 one]", texts("[! n 0 Nat *1] := [^ n 0 Nat Fun]"), nil, 8, impl.CodeUnify},
		{texts("*_0", "#0", "#1"), "#0", "#1", texts("_ := 0"), texts("_ := 0"), 2, 0},
		{texts("*_0", "#0", "#1"), "#0", "#1", texts("_"), nil, 2, impl.CodeUnify},
		// put off with the context as it is known
		{texts("?0", "[! x 0 ?0 ?1]"), "[?2 two]", "[#0 #1]", texts("*1 := Nat", "*1", "Fun"), nil, 1, 0},
	} {
		q := unifyAsk{stateOf(c.state...), contextOf(c.ctx...), read(c.a), read(c.b)}
		want := stateOf(c.after...)
		if c.code == 0 && c.after == nil {
			want = copyState(q.s)
			want.Later = []impl.Pair{{Ctx: contextOf("Nat", "[! x 0 Nat ?1]"), A: q.a, B: q.b}}
		}
		q.holdEvery(t, w, want, c.work, c.code)
	}
}

// More than MaxHoles pairs are too many, whether they are of terms or of levels.
func TestUnifyPutsOffTooMany(t *testing.T) {
	e := unifyEnv()
	var s impl.State
	s.Holes = stateOf("Fun").Holes
	s.Levels = []impl.Level{{}}
	for range impl.MaxHoles {
		s.Later = append(s.Later, impl.Pair{A: read("two"), B: read("two")})
	}
	terms := unifyAsk{s, nil, read("[?0 two]"), read("two")}
	levels := unifyAsk{s, nil, read("*max(_0,1)"), read("*2")}
	for _, q := range []unifyAsk{terms, levels} {
		q.hold(t, e, 9, impl.State{}, 1, impl.CodeSize)
		q.hold(t, e, 0, impl.State{}, 0, impl.CodeFuel)
		q.s.Later = q.s.Later[1:]
		want := copyState(q.s)
		want.Later = append(want.Later, impl.Pair{A: q.a, B: q.b})
		q.hold(t, e, 9, want, 1, 0)
	}
	// Settle takes all out first
	for i := range s.Later {
		s.Later[i].A = read("[?0 two]")
	}
	unifyAsk{s: s}.hold(t, e, impl.MaxFuel, s, impl.MaxHoles, 0)
	s.Later[7].A, s.Later[7].B = read("*max(_0,1)+1"), read("*3")
	want := copyState(s)
	want.Later[7].A, want.Later[7].B = read("*max(_0,1)"), read("*2")
	unifyAsk{s: s}.hold(t, e, impl.MaxFuel, want, impl.MaxHoles, 0)
	s.Levels = append(s.Levels, impl.Level{})
	s.Later[7].A, s.Later[7].B = read("[[poly{max(_0,1),max(_1,1)} Nat] Nat]"), read("[[poly{2,2} Nat] Nat]")
	// two pairs for one, and its two arguments
	unifyAsk{s: s}.hold(t, e, impl.MaxFuel, impl.State{}, impl.MaxHoles+2, impl.CodeSize)
}

// A try that fails takes back what it has set and put off.
func TestUnifyTakesBack(t *testing.T) {
	holdUnifyCases(t, unifyEnv(), unifyContext(), []unifyCase{
		{"[[none ?0] two]", "[[none one] three]", texts("Nat"), texts("Nat"), 16, 0},
		{"[[none two] ?0]", "[[none two] one]", texts("Nat"), texts("Nat := one"), 4, 0},
		{"[[none [?0 two]] two]", "[[none one] three]", texts("Fun"), texts("Fun"), 15, 0},
		{"[[none [?0 two]] two]", "[[none one] three]", texts("Fun", "two = three"), texts("Fun", "two = three"), 15, 0},
		{"[[none_at{_0} Nat] two]", "[[none_at{2} Nat] three]", texts("_"), texts("_"), 15, 0},
		{"[[none_at{max(_0,1)} Nat] two]", "[[none_at{2} Nat] three]", texts("_"), texts("_"), 15, 0},
		{"[[swap ?0] two]", "[[swap one] three]", texts("Nat"), nil, 23, impl.CodeUnify},
		{"[[f [[none ?0] two]] ?0]", "[[f [[none one] three]] four]", texts("Nat"), texts("Nat := four"), 19, 0},
		{"[[f ?0] [[none ?1] two]]", "[[f one] [[none ?0] three]]", texts("Nat", "Nat"), texts("Nat := one", "Nat"), 19, 0},
	})
}

// What was found of types, and what was compared, is found anew when more is
// known: all terms of ?0 are one only once _0 is 0.
func TestUnifyForgets(t *testing.T) {
	e := unifyEnv()
	w := slowStepsIn(e)
	for _, c := range []struct {
		a, b  string
		after []string
		work  int
		code  int
	}{
		{"[[[some #0] *_0] #0]", "[[[some [[^ x 0 Nat #1] two]] *0] #1]", texts("*_0", "_ := 0"), 7, 0},
		{"[[[some #0] *_0] #0]", "[[[some [[^ x 0 Nat #1] two]] *1] #1]", nil, 7, impl.CodeUnify},
		{"[[swap #0] *_0]", "[[swap #1] *0]", texts("*_0", "_ := 0"), 12, 0},
		{"[[swap #0] *_0]", "[[swap #1] *1]", nil, 12, impl.CodeUnify},
		{"[[swap [[none_at{_0} Nat] #0]] *_0]", "[[swap [[none_at{0} Nat] #1]] *1]", texts("*_0", "_ := 1"), 22, 0},
		{"[[[some [[none_at{_0} Nat] [[f #0] two]]] *1] #0]", "[[[some [[none_at{0} Nat] [[f #1] one]]] *_0] #1]", nil, 15, impl.CodeUnify},
	} {
		s := stateOf("*_0", "_")
		unifyAsk{s, contextOf("?0", "?0"), read(c.a), read(c.b)}.holdEvery(t, w, stateOf(c.after...), c.work, c.code)
	}
}
