package tests

import (
	"math/rand"
	"slices"
	"testing"

	"loop.example/g00005/impl"
)

func TestLevelValueByTheTable(t *testing.T) {
	names := []string{"u", "v", "w"}
	for _, l := range smallLevels(5, "u", "v") {
		for _, way := range allValues(names, []int{0, 1, 2, 7}) {
			got, ok := impl.LevelValue(l, names, []int{way["u"], way["v"], way["w"]})
			if want := numberOf(l, way); !ok || got != want {
				t.Fatalf("%s at %v: %d %v", impl.LevelText(l), way, got, ok)
			}
		}
	}
}

func TestLevelValueEdges(t *testing.T) {
	u, big := param("u"), impl.MaxValue
	for i, c := range []struct {
		l      impl.Level
		names  []string
		values []int
		want   int
		ok     bool
	}{
		{zero(), nil, nil, 0, true},
		{succ(zero(), 5), []string{}, nil, 5, true},
		{u, []string{"u"}, []int{0}, 0, true},
		{u, []string{"u"}, []int{big}, big, true},
		{succ(u, 63), []string{"u"}, []int{big}, big + 63, true},
		{u, []string{"u"}, []int{big + 1}, 0, false},
		{u, []string{"u"}, []int{-1}, 0, false},
		{zero(), []string{"u"}, []int{-1}, 0, false},
		{u, []string{"u", "v"}, []int{1, big + 1}, 0, false},
		{u, []string{"u", "u"}, []int{1, -1}, 0, false},
		{u, []string{"u", "u"}, []int{3, 4}, 3, true},
		{u, []string{"v", "u", "", "u"}, []int{1, 2, 3, 4}, 2, true},
		{u, []string{"u", "no name"}, []int{3, 4}, 3, true},
		{u, nil, nil, 0, false},
		{u, []string{"v"}, []int{1}, 0, false},
		{pair(impl.LevelImax, u, zero()), nil, nil, 0, false},
		{u, []string{"u"}, nil, 0, false},
		{u, []string{"u"}, []int{1, 2}, 0, false},
		{zero(), nil, []int{1}, 0, false},
	} {
		if got, ok := impl.LevelValue(c.l, c.names, c.values); got != c.want || ok != c.ok {
			t.Errorf("%d: %d %v", i, got, ok)
		}
	}
}

// Where a's number is greater than b's for any values, it is so for values of
// which each is 0, 1 or greater than all that stands on top: these suffice.
var tellingValues = []int{0, 1, 100}

func TestLevelOrderOfSmallLevels(t *testing.T) {
	levels := smallLevels(5, "u", "v")
	ways := allValues([]string{"u", "v"}, []int{0, 1, 2, 3, 100})
	var numbers [][]int
	for _, l := range levels {
		numbers = append(numbers, numbersOf(l, ways))
	}
	for i, a := range levels {
		for j, b := range levels {
			if want := allLeq(numbers[i], numbers[j]); impl.LevelLeq(a, b) != want {
				t.Fatalf("%s at most %s: want %v", impl.LevelText(a), impl.LevelText(b), want)
			}
			if want := slices.Equal(numbers[i], numbers[j]); impl.LevelSame(a, b) != want {
				t.Fatalf("%s same as %s: want %v", impl.LevelText(a), impl.LevelText(b), want)
			}
		}
	}
}

func TestLevelOrderOfRandomLevels(t *testing.T) {
	t.Parallel()
	r := rand.New(rand.NewSource(4))
	names := []string{"u", "v", "w", "x"}
	ways := allValues(names, tellingValues)
	yes := 0
	for range 30000 {
		nodes := 1 + r.Intn(20)
		a, b := randomLevel(r, nodes, names[:1+r.Intn(4)]), randomLevel(r, nodes, names)
		x, y := numbersOf(a, ways), numbersOf(b, ways)
		leq := allLeq(x, y)
		if leq {
			yes++
		}
		if impl.LevelLeq(a, b) != leq || impl.LevelSame(a, b) != slices.Equal(x, y) {
			t.Fatalf("%s and %s: want %v", impl.LevelText(a), impl.LevelText(b), leq)
		}
	}
	if yes < 1000 {
		t.Errorf("only %d in order", yes)
	}
}

// Six parameters in each, other ones, too: the greatest number of cases.
func TestLevelOrderAtLimits(t *testing.T) {
	r := rand.New(rand.NewSource(5))
	names := []string{"a", "b", "c", "d", "e", "f"}
	ways := allValues(names, tellingValues)
	for range 150 {
		a, b := randomLevel(r, impl.MaxLevel, names), randomLevel(r, impl.MaxLevel, names)
		both := pair(impl.LevelMax, randomLevel(r, 30, names), randomLevel(r, 30, names))
		x, y, z := numbersOf(a, ways), numbersOf(b, ways), numbersOf(both, ways)
		if impl.LevelLeq(a, b) != allLeq(x, y) || impl.LevelLeq(a, both) != allLeq(x, z) || impl.LevelLeq(both, b) != allLeq(z, y) {
			t.Fatalf("%s, %s, %s", impl.LevelText(a), impl.LevelText(b), impl.LevelText(both))
		}
	}
	first, second := chain(impl.LevelImax, names...), chain(impl.LevelImax, "g", "h", "i", "j", "k", "l")
	if impl.LevelLeq(first, second) || impl.LevelSame(first, second) || !impl.LevelSame(first, first) {
		t.Errorf("other parameters")
	}
	if deep := pair(impl.LevelImax, second, zero()); !impl.LevelLeq(deep, first) || !impl.LevelSame(deep, zero()) {
		t.Errorf("a zero of other parameters")
	}
}

func TestLevelOrderOfImax(t *testing.T) {
	for _, c := range []struct {
		a, b      string
		leq, back bool
	}{
		{"imax(u,v)", "max(u,v)", true, false},
		{"imax(u,v+1)", "max(u,v+1)", true, true},
		{"imax(u,max(v,1))", "max(u,max(v,1))", true, true},
		{"imax(u,imax(v,w))", "imax(max(u,v),w)", true, true},
		{"imax(imax(u,v),w)", "imax(u,max(v,w))", true, false},
		{"imax(u,max(v,w))", "max(imax(u,v),imax(u,w))", true, true},
		{"imax(u,v)+1", "imax(u+1,v+1)", true, false},
		{"imax(u+1,v+1)", "max(u,v)+1", true, true},
		{"imax(1,u)", "u", true, true},
		{"imax(2,u)", "u", false, true},
		{"imax(2,u)", "u+1", true, false},
		{"imax(3,u)", "u+1", false, false},
		{"imax(u,u)", "u", true, true},
		{"v", "imax(u,v)", true, false},
		{"u", "imax(u,v)", false, false},
		{"u", "imax(u,imax(1,v)+1)", true, false},
		{"max(imax(u,v),imax(v,u))", "max(u,v)", true, true},
		{"max(u,v)", "max(imax(w,u),imax(w,v))", true, false},
		{"max(u,v)", "max(u,imax(v,w))", false, false},
		{"imax(u,imax(v,0))", "0", true, true},
		{"max(1,imax(1,u))", "1", false, true},
		{"imax(0,u)", "u", true, true},
		{"imax(imax(2,u),u)", "imax(2,u)", true, true},
		{"imax(2,imax(u,v))", "imax(2,v)", false, true},
	} {
		a, b := parsed(t, c.a), parsed(t, c.b)
		if impl.LevelLeq(a, b) != c.leq || impl.LevelLeq(b, a) != c.back || impl.LevelSame(a, b) != (c.leq && c.back) {
			t.Errorf("%s and %s", c.a, c.b)
		}
	}
}

func parsed(t *testing.T, text string) impl.Level {
	t.Helper()
	l, code := impl.ParseLevel(text)
	if code != 0 {
		t.Fatalf("%q: code %d", text, code)
	}
	return l
}

func signByNumbers(numbers []int) int {
	zeros := 0
	for _, n := range numbers {
		if n == 0 {
			zeros++
		}
	}
	if zeros == 0 {
		return 0
	}
	if zeros == len(numbers) {
		return 1
	}
	return 2
}

func TestLevelSign(t *testing.T) {
	levels := smallLevels(6, "u", "v")
	ways := allValues([]string{"u", "v"}, []int{0, 1, 2})
	seen := map[int]int{}
	for _, l := range levels {
		want := signByNumbers(numbersOf(l, ways))
		seen[want]++
		if got := impl.LevelSign(l); got != want {
			t.Fatalf("%s: %d for %d", impl.LevelText(l), got, want)
		}
	}
	if len(seen) != 3 {
		t.Errorf("signs %v", seen)
	}
	r := rand.New(rand.NewSource(6))
	names := []string{"a", "b", "c", "d", "e", "f"}
	ways = allValues(names, []int{0, 1})
	for range 2000 {
		l := randomLevel(r, 1+r.Intn(impl.MaxLevel), names)
		if got := impl.LevelSign(l); got != signByNumbers(numbersOf(l, ways)) {
			t.Fatalf("%s: %d", impl.LevelText(l), got)
		}
	}
}
