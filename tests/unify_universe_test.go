package tests

import (
	"math/rand"
	"slices"
	"strconv"
	"testing"

	"loop.example/g00005/impl"
)

// holdUniverses fails unless the level holes become these levels, and the pairs
// that are left are these.
func holdUniverses(t *testing.T, s impl.State, want impl.State, code int) {
	t.Helper()
	before := copyState(s)
	got, gotCode := impl.Universes(s)
	if !equalStates(got, want) || gotCode != code {
		t.Errorf("Universes of %s: code %d\n%s\nnot code %d\n%s", short(stateText(s)), gotCode, stateText(got), code, stateText(want))
	}
	if !equalStates(before, s) {
		t.Errorf("Universes of %s: the state was changed", short(stateText(s)))
	}
}

func TestUniverses(t *testing.T) {
	for _, c := range []struct {
		state []string
		after []string
		code  int
	}{
		// level holes that no pair names
		{nil, nil, 0},
		{texts("_"), texts("_ := 0"), 0},
		{texts("_", "_ := _0+1", "_ := u", "_"), texts("_ := 0", "_ := _0+1", "_ := u", "_ := 0"), 0},
		{texts("Nat", "Nat := ?0", "_"), texts("Nat", "Nat := ?0", "_ := 0"), 0},
		// one atom on each side
		{texts("_", "*_0 = *3"), texts("_ := 3"), 0},
		{texts("_", "*3 = *_0"), texts("_ := 3"), 0},
		{texts("_", "*_0+1 = *3"), texts("_ := 2"), 0},
		{texts("_", "*_0+3 = *3"), texts("_ := 0"), 0},
		{texts("_", "*_0+4 = *3"), nil, impl.CodeUnify},
		{texts("_", "_", "*_1 = *_0+2"), texts("_ := 0", "_ := 2"), 0},
		{texts("_", "_", "*_1+1 = *_0+2", "*_1 = *4"), texts("_ := 3", "_ := 4"), 0},
		{texts("_", "*_0 = *_0"), texts("_ := 0"), 0},
		{texts("_", "*_0 = *_0+1"), nil, impl.CodeUnify},
		{texts("_", "_", "*_0 = *_1+1", "*_1 = *_0+1"), nil, impl.CodeUnify},
		{texts("_", "*_0 = *1", "*_0 = *2"), nil, impl.CodeUnify},
		{texts("*0 = *0"), nil, 0}, {texts("*2 = *2"), nil, 0}, {texts("*0 = *1"), nil, impl.CodeUnify}, {texts("*1 = *0"), nil, impl.CodeUnify},
		// several atoms on one side: each is at most the other side
		{texts("_", "*max(_0,1) = *_0"), texts("_ := 1"), 0},
		{texts("_", "_", "*_1 = *_0+2", "*max(_0,1) = *_0"), texts("_ := 1", "_ := 3"), 0},
		{texts("_", "*_0 = *max(_0,4)+0"), texts("_ := 4"), 0},
		{texts("_", "_", "*max(_0,_1) = *_1", "*_0 = *2"), texts("_ := 2", "_ := 2"), 0},
		{texts("_", "_", "_", "*max(max(_0,1)+1,_1)+1 = *_2+1"), texts("_ := 0", "_ := 0", "_ := 2"), 0},
		{texts("_", "*imax(1,_0) = *_0", "*_0 = *1"), texts("_ := 1"), 0},
		{texts("_", "*imax(2,_0) = *_0"), texts("_ := 2"), 0},
		{texts("_", "_", "*imax(_0,_1)+1 = *3", "*_1 = *2"), texts("_ := 0", "_ := 2"), 0},
		{texts("_", "*imax(_0,3)+1 = *4"), texts("_ := 0"), 0},
		{texts("_", "*imax(3,_0) = *0"), nil, impl.CodeUnify},
		{texts("_", "_", "*max(_0,_1) = *3"), nil, impl.CodeUnify},
		{texts("_", "_", "*max(_0,_1) = *3", "*_1 = *3"), texts("_ := 0", "_ := 3"), 0},
		{texts("_", "*max(_0,3) = *2"), nil, impl.CodeUnify},
		{texts("_", "*max(_0,_0) = *2"), nil, impl.CodeUnify},
		// several on both: nothing is asked
		{texts("_", "_", "*max(_0,1) = *max(_1,1)"), texts("_ := 0", "_ := 0"), 0},
		{texts("_", "_", "*max(_0,2) = *max(_1,1)"), nil, impl.CodeUnify},
		{texts("_", "_", "*max(_0,2) = *max(_1,1)", "*_1 = *2"), texts("_ := 0", "_ := 2"), 0},
		// what is known is filled first
		{texts("_", "_ := max(_0,2)", "*_1 = *_0"), texts("_ := 2", "_ := max(_0,2)"), 0},
		{texts("_", "_ := 5", "*_1+1 = *_0"), texts("_ := 6", "_ := 5"), 0},
		{texts("*1 := *_0", "_", "?0 = *2"), texts("*1 := *_0", "_ := 2"), 0},
		{texts("[! n 0 Nat *1] := [^ n 0 Nat *_0]", "_", "*2 = [?0 two]"), texts("[! n 0 Nat *1] := [^ n 0 Nat *_0]", "_ := 2"), 0},
		// a parameter that is no hole: nothing is asked, but it must be the same
		{texts("_", "*max(_0,u) = *u"), texts("_ := 0"), 0},
		{texts("_", "*max(_0,u) = *u", "*_0 = *1"), nil, impl.CodeUnify},
		{texts("_", "*max(_0,u)+1 = *u+1"), texts("_ := 0"), 0},
		{texts("_", "*_0 = *u"), nil, impl.CodeUnify},
		{texts("_", "*imax(u+1,_0) = *_0"), texts("_ := 0"), 0},
		{texts("_", "*_0 = *imax(u+1,_0)"), texts("_ := 0"), 0},
		{texts("_", "_", "*_0 = *max(_0,0)", "*_1 = *imax(u,_1)"), texts("_ := 0", "_ := 0"), 0},
		{texts("*u = *u", "*max(u,v) = *max(v,u)"), nil, 0}, {texts("*u = *v"), nil, impl.CodeUnify},
		{texts("_", "*_00 = *_00"), texts("_ := 0"), 0}, {texts("_", "*_0 = *_00"), nil, impl.CodeUnify},
		// other pairs stay
		{texts("Nat", "_", "?0 = two", "*_0 = *1", "[f ?0] = [f two]"), texts("Nat", "_ := 1", "?0 = two", "[f ?0] = [f two]"), 0},
		{texts("Nat := two", "_", "?0 = three"), texts("Nat := two", "_ := 0", "?0 = three"), 0},
		{texts("*1", "_", "?0 = *_0", "*_0 = ?0"), texts("*1", "_ := 0", "?0 = *_0", "*_0 = ?0"), 0},
		{texts("_", "[id{_0} Nat] = [id{2} Nat]"), texts("_ := 0", "[id{_0} Nat] = [id{2} Nat]"), 0},
		{texts("_", "*_0 = [! x 0 *_0 *1]"), texts("_ := 0", "*_0 = [! x 0 *_0 *1]"), 0},
	} {
		holdUniverses(t, stateOf(c.state...), stateOf(c.after...), c.code)
	}
	// a pair of sorts may have a context
	s := stateOf("_")
	s.Later = []impl.Pair{{Ctx: contextOf("Nat", "Nat"), A: read("*_0"), B: read("*2")}, {Ctx: contextOf("Nat"), A: read("#0"), B: read("two")}}
	want := stateOf("_ := 2")
	want.Later = copyState(s).Later[1:]
	holdUniverses(t, s, want, 0)
}

func TestUniversesInput(t *testing.T) {
	for _, list := range [][]string{
		texts("?1"), texts("Nat := ?1"), texts("*_0"), texts("Nat := ?0"), texts("Nat := ?1", "Nat := ?0"), texts("two = ?0"), texts("*_0 = *1"),
		texts("_ := _1"), texts("_ := _0"), texts("_ := _1", "_ := _0+1"),
	} {
		holdUniverses(t, stateOf(list...), impl.State{}, impl.CodeInput)
	}
	for _, x := range wrongTerms() {
		s := stateOf("Nat", "_")
		s.Holes[0].Type = x
		holdUniverses(t, s, impl.State{}, impl.CodeInput)
		for place := range 3 {
			s = stateIn(contextOf("Nat"), "|- two = two")
			p := &s.Later[0]
			*[]*impl.Term{&p.Ctx[0], &p.A, &p.B}[place] = x
			holdUniverses(t, s, impl.State{}, impl.CodeInput)
		}
		if len(x.Nodes) > 0 {
			s = stateOf("Nat")
			s.Holes[0].Value = x
			holdUniverses(t, s, impl.State{}, impl.CodeInput)
		}
	}
	for _, l := range wrongLevels() {
		s := stateOf("_")
		s.Levels[0] = l
		if len(l.Nodes) > 0 {
			holdUniverses(t, s, impl.State{}, impl.CodeInput)
		}
	}
	// no environment is asked
	holdUniverses(t, stateOf("Nut", "_", "[nut #7] = #3"), stateOf("Nut", "_ := 0", "[nut #7] = #3"), 0)
}

// numbered is a state with so many level holes.
func numbered(count int, pairs ...string) impl.State {
	s := stateOf(pairs...)
	s.Levels = make([]impl.Level, count)
	return s
}

func TestUniversesSize(t *testing.T) {
	// unknowns: those of pairs without other parameters
	for _, count := range []int{impl.MaxVars, impl.MaxVars + 1} {
		var pairs, others []string
		for i := range count {
			pairs = append(pairs, "*_"+strconv.Itoa(i)+" = *"+strconv.Itoa(i))
			others = append(others, "*max(_"+strconv.Itoa(i)+",u) = *u")
		}
		s, want, code := numbered(count, pairs...), numbered(count), impl.CodeSize
		for i := range want.Levels {
			want.Levels[i] = succ(zero(), i)
		}
		if count == impl.MaxVars {
			code = 0
		} else {
			want = impl.State{}
		}
		holdUniverses(t, s, want, code)
		want = numbered(count)
		for i := range want.Levels {
			want.Levels[i] = zero()
		}
		holdUniverses(t, numbered(count, others...), want, 0)
		// more level holes than that, which no pair names
		holdUniverses(t, numbered(count), want, 0)
	}
	// constraints: two for each pair of one atom each
	for _, count := range []int{impl.MaxCons / 2, impl.MaxCons/2 + 1} {
		s := numbered(1, slices.Repeat(texts("*_0 = *1"), count)...)
		if count == impl.MaxCons/2 {
			holdUniverses(t, s, stateOf("_ := 1"), 0)
		} else {
			holdUniverses(t, s, impl.State{}, impl.CodeSize)
		}
	}
	// a number that is no level
	holdUniverses(t, stateOf("_", "_", "*_0 = *60", "*_1 = *_0+3"), stateOf("_ := 60", "_ := 63"), 0)
	holdUniverses(t, stateOf("_", "_", "*_0 = *60", "*_1 = *_0+4"), impl.State{}, impl.CodeSize)
	// a level that becomes too great
	holdUniverses(t, stateOf("_", "_", "*_0 = *40", "*_1 = *40", "*max(_0,_1) = *max(_1,3)"), impl.State{}, impl.CodeSize)
	holdUniverses(t, stateOf("_", "_", "*_0 = *40", "*_1 = *40", "*max(_1,3) = *max(_0,_1)"), impl.State{}, impl.CodeSize)
	holdUniverses(t, stateOf("_ := _1+40", "_", "*_0+30 = *1"), impl.State{}, impl.CodeSize)
	holdUniverses(t, stateOf("_ := _1+40", "_", "*1 = *_0+30"), impl.State{}, impl.CodeSize)
	// too great, ahead of what nothing meets
	holdUniverses(t, numbered(1, slices.Repeat(texts("*_0 = *_0+1"), impl.MaxCons)...), impl.State{}, impl.CodeSize)
}

// universesByHand looks for the numbers by trying all, the least ones first.
func universesByHand(s impl.State, most int) ([]int, bool) {
	numbers := make([]int, len(s.Levels))
	var names []string
	for i := range s.Levels {
		names = append(names, "_"+strconv.Itoa(i))
	}
	holds := func() bool {
		return !slices.ContainsFunc(s.Later, func(p impl.Pair) bool {
			a, b := p.A.Nodes[0].Levels[0], p.B.Nodes[0].Levels[0]
			for _, sides := range [][2]impl.Level{{a, b}, {b, a}} {
				left, right := atomsByHand(sides[0]), atomsByHand(sides[1])
				if len(right) != 1 {
					continue
				}
				for _, one := range left {
					x, _ := impl.LevelValue(one, names, numbers)
					y, _ := impl.LevelValue(right[0], names, numbers)
					if x > y {
						return true
					}
				}
			}
			return false
		})
	}
	for {
		if holds() {
			return numbers, true
		}
		at := 0
		for at < len(numbers) && numbers[at] == most {
			numbers[at] = 0
			at++
		}
		if at == len(numbers) {
			return nil, false
		}
		numbers[at]++
	}
}

// atomsByHand are a level's atoms, each a level.
func atomsByHand(l impl.Level) []impl.Level {
	last := len(l.Nodes) - 1
	kids := l.Nodes[last].Kids
	part := func(from, to int) impl.Level {
		x := impl.Level{}
		for _, node := range l.Nodes[from : to+1] {
			node.Kids = slices.Clone(node.Kids)
			for i := range node.Kids {
				node.Kids[i] -= from
			}
			x.Nodes = append(x.Nodes, node)
		}
		return x
	}
	switch l.Nodes[last].K {
	case impl.LevelSucc:
		var list []impl.Level
		for _, one := range atomsByHand(part(0, kids[0])) {
			list = append(list, succ(one, 1))
		}
		return list
	case impl.LevelMax, impl.LevelImax:
		return append(atomsByHand(part(0, kids[0])), atomsByHand(part(kids[0]+1, kids[1]))...)
	}
	return []impl.Level{l}
}

// The least numbers, held against all that are tried.
func TestUniversesOfRandomPairs(t *testing.T) {
	t.Parallel()
	r := rand.New(rand.NewSource(171))
	found, none, apart := 0, 0, 0
	for range 600 {
		count := 1 + r.Intn(3)
		var names []string
		for i := range count {
			names = append(names, "_"+strconv.Itoa(i))
		}
		s := numbered(count)
		for range r.Intn(4) {
			s.Later = append(s.Later, impl.Pair{A: universe(randomLevel(r, 4, names)), B: universe(randomLevel(r, 4, names))})
		}
		numbers, ok := universesByHand(s, 8)
		if !ok {
			none++
			holdUniverses(t, s, impl.State{}, impl.CodeUnify)
			continue
		}
		want := numbered(count)
		for i, number := range numbers {
			want.Levels[i] = succ(zero(), number)
		}
		same := true
		for _, p := range s.Later {
			a, _ := impl.LevelValue(p.A.Nodes[0].Levels[0], names, numbers)
			b, _ := impl.LevelValue(p.B.Nodes[0].Levels[0], names, numbers)
			same = same && a == b
		}
		if same {
			found++
			holdUniverses(t, s, want, 0)
		} else {
			apart++
			holdUniverses(t, s, impl.State{}, impl.CodeUnify)
		}
	}
	if found < 100 || none < 50 || apart < 50 {
		t.Errorf("%d found, %d none, %d apart", found, none, apart)
	}
}
