package tests

import (
	"fmt"
	"math/rand"
	"slices"
	"strings"
	"testing"

	"loop.example/g00005/impl"
)

func TestConstants(t *testing.T) {
	codes := []int{impl.CodeInput, impl.CodeFuel, impl.CodeSize, impl.CodeText, impl.CodeConst, impl.CodeLevel, impl.CodeFun, impl.CodeArg, impl.CodeSort, impl.CodeProj, impl.CodeHole, impl.CodeName, impl.CodeFamily, impl.CodeCtor, impl.CodePositive, impl.CodeUniverse, impl.CodeProp, impl.CodeQuot, impl.CodeSum, impl.CodeUnify, impl.CodeOpen, impl.CodeClass, impl.CodeMissing, impl.CodeUnused, impl.CodeCall, impl.CodePattern, impl.CodeTactic, impl.CodeGoals}
	want := []int{1, 2, 3, 4, 11, 12, 13, 14, 15, 16, 17, 20, 21, 22, 23, 24, 25, 26, 27, 30, 31, 32, 33, 34, 35, 36, 37, 38}
	if !slices.Equal(codes, want) {
		t.Errorf("codes %v", codes)
	}
	limits := []int{impl.MaxFuel, impl.MaxLevel, impl.MaxParams, impl.MaxName, impl.MaxValue, impl.MaxLevelText}
	if !slices.Equal(limits, []int{100000, 64, 6, 40, 1000000, 3000}) {
		t.Errorf("limits %v", limits)
	}
	kinds := []int{impl.LevelZero, impl.LevelSucc, impl.LevelMax, impl.LevelImax, impl.LevelParam}
	if !slices.Equal(kinds, []int{1, 2, 3, 4, 5}) {
		t.Errorf("kinds %v", kinds)
	}
}

func TestShortNames(t *testing.T) {
	for _, name := range []string{"a", "Z", "_", "__", "x1", "x'", "_'", "_0", "max", "Prop", "aZ09_'", strings.Repeat("b", impl.MaxName)} {
		if !impl.ShortOk(name) || !impl.NameOk(name) {
			t.Errorf("%q is a short name", name)
		}
	}
	for _, name := range []string{"", "1", "'", "'a", "9a", "a b", " a", "a ", "a-b", "é", "a\xff", "a\x00", "a\n", strings.Repeat("b", impl.MaxName+1), strings.Repeat("b", 100000)} {
		if impl.ShortOk(name) || impl.NameOk(name) {
			t.Errorf("%q is no name", name)
		}
	}
}

func TestNameBytes(t *testing.T) {
	letters := "abcdefghijklmnopqrstuvwxyzABCDEFGHIJKLMNOPQRSTUVWXYZ"
	for i := range 256 {
		c := string([]byte{byte(i)})
		if first := strings.Contains(letters+"_", c); impl.ShortOk(c) != first || impl.NameOk(c) != first {
			t.Errorf("byte %d in front", i)
		}
		behind := strings.Contains(letters+"_'0123456789", c)
		if impl.ShortOk("a"+c) != behind || impl.NameOk("a.a"+c) != behind {
			t.Errorf("byte %d behind", i)
		}
	}
}

func TestNamesWithPoints(t *testing.T) {
	half := strings.Repeat("a", impl.MaxName/2)
	for _, name := range []string{"a.b", "Nat.succ", "_._", "a.b.c.d", "max.imax", "x'.y1", half + "." + half[1:], "a" + strings.Repeat(".b", (impl.MaxName-2)/2)} {
		if !impl.NameOk(name) || impl.ShortOk(name) {
			t.Errorf("%q is a name, but no short one", name)
		}
	}
	for _, name := range []string{".", "..", ".a", "a.", "a..b", "a.1", "a.'", "a. b", half + "." + half, strings.Repeat("a.", 30) + "a"} {
		if impl.NameOk(name) || impl.ShortOk(name) {
			t.Errorf("%q is no name", name)
		}
	}
}

func TestLevelOkFaults(t *testing.T) {
	for i, l := range wrongLevels() {
		if impl.LevelOk(l) {
			t.Errorf("%d: %v is not valid", i, l)
		}
	}
	for i, l := range smallLevels(5, "u", "v") {
		if !impl.LevelOk(l) {
			t.Fatalf("%d: %v is valid", i, l)
		}
	}
}

func TestLevelOkEmptyKids(t *testing.T) {
	for _, kids := range [][]int{nil, {}} {
		l := impl.Level{Nodes: []impl.LNode{{K: impl.LevelZero, Kids: kids}, {K: impl.LevelParam, S: "u", Kids: kids}, {K: impl.LevelMax, Kids: []int{0, 1}}}}
		if !impl.LevelOk(l) || impl.LevelText(l) != "max(0,u)" {
			t.Errorf("kids %v", kids)
		}
	}
}

func TestLevelOkLimits(t *testing.T) {
	for i, c := range []struct {
		l  impl.Level
		ok bool
	}{
		{zero(), true},
		{succ(zero(), impl.MaxLevel-1), true},
		{succ(zero(), impl.MaxLevel), false},
		{succ(param("u"), impl.MaxLevel-1), true},
		{succ(param("u"), impl.MaxLevel), false},
		{pair(impl.LevelMax, succ(zero(), 30), succ(param("u"), 31)), true},
		{pair(impl.LevelMax, succ(zero(), 31), succ(param("u"), 31)), false},
		{succ(zero(), 100000), false},
		{chain(impl.LevelMax, "a", "b", "c", "d", "e", "f"), true},
		{chain(impl.LevelImax, "a", "b", "c", "d", "e", "f", "a", "f"), true},
		{chain(impl.LevelMax, "a", "b", "c", "d", "e", "f", "g"), false},
		{chain(impl.LevelImax, "a", "a", "b", "c", "d", "e", "f", "g"), false},
		{param("maxx"), true},
		{param("Max"), true},
		{param("_"), true},
		{param(strings.Repeat("u", impl.MaxName)), true},
		{param(strings.Repeat("u", impl.MaxName+1)), false},
	} {
		if impl.LevelOk(c.l) != c.ok {
			t.Errorf("%d: %v", i, !c.ok)
		}
	}
}

// validByStretch is the document's second wording: the last kid of node i is
// i-1, each earlier one is just in front of the next one's stretch, and the
// root's stretch begins at 0.
func validByStretch(l impl.Level) bool {
	var begin func(i int) int
	begin = func(i int) int {
		if i < 0 {
			return -1
		}
		n := l.Nodes[i]
		want, known := map[int]int{impl.LevelZero: 0, impl.LevelSucc: 1, impl.LevelMax: 2, impl.LevelImax: 2, impl.LevelParam: 0}[n.K]
		if !known || len(n.Kids) != want || (n.S != "") != (n.K == impl.LevelParam) {
			return -1
		}
		at := i
		for k := want - 1; k >= 0; k-- {
			if n.Kids[k] != at-1 {
				return -1
			}
			if at = begin(at - 1); at < 0 {
				return -1
			}
		}
		return at
	}
	return len(l.Nodes) > 0 && begin(len(l.Nodes)-1) == 0
}

func TestLevelOkByStretches(t *testing.T) {
	r := rand.New(rand.NewSource(1))
	valid := 0
	for range 200000 {
		var nodes []impl.LNode
		for i := range 1 + r.Intn(5) {
			n := impl.LNode{K: r.Intn(7)}
			if n.K == impl.LevelParam || r.Intn(30) == 0 {
				n.S = "u"
			}
			for range []int{0, 0, 1, 2, 2, 0, 3}[n.K] {
				n.Kids = append(n.Kids, i-r.Intn(4))
			}
			slices.Sort(n.Kids)
			nodes = append(nodes, n)
		}
		l := impl.Level{Nodes: nodes}
		if want := validByStretch(l); impl.LevelOk(l) != want {
			t.Fatalf("%v: want %v", l, want)
		} else if want {
			valid++
		}
	}
	if valid < 1000 {
		t.Errorf("only %d of them are valid", valid)
	}
}

// Each function answers at levels that are not valid, and as the document says.
func TestFunctionsOfWrongLevels(t *testing.T) {
	wrong := append(wrongLevels(), succ(zero(), impl.MaxLevel), chain(impl.LevelMax, "a", "b", "c", "d", "e", "f", "g"))
	for i, l := range wrong {
		if text := impl.LevelText(l); text != "" {
			t.Errorf("%d: text %q", i, text)
		}
		if n, ok := impl.LevelValue(l, []string{"u"}, []int{1}); ok || n != 0 {
			t.Errorf("%d: value %d %v", i, n, ok)
		}
		if impl.LevelLeq(l, l) || impl.LevelLeq(zero(), l) || impl.LevelLeq(l, succ(param("u"), 60)) {
			t.Errorf("%d: leq", i)
		}
		if impl.LevelSame(l, l) || impl.LevelSame(zero(), l) || impl.LevelSame(l, zero()) {
			t.Errorf("%d: same", i)
		}
		if sign := impl.LevelSign(l); sign != -1 {
			t.Errorf("%d: sign %d", i, sign)
		}
		put, code := impl.LevelPut(l, nil, nil)
		if code != impl.CodeInput || len(put.Nodes) != 0 {
			t.Errorf("%d: put in it %d", i, code)
		}
		put, code = impl.LevelPut(zero(), []string{"w"}, []impl.Level{l})
		if code != impl.CodeInput || len(put.Nodes) != 0 {
			t.Errorf("%d: put %d", i, code)
		}
	}
}

func TestLevelTexts(t *testing.T) {
	u, v := param("u"), param("v")
	for i, c := range []struct {
		l    impl.Level
		text string
	}{
		{zero(), "0"},
		{succ(zero(), 1), "1"},
		{succ(zero(), 63), "63"},
		{u, "u"},
		{succ(u, 1), "u+1"},
		{succ(u, 63), "u+63"},
		{param("_x'1"), "_x'1"},
		{pair(impl.LevelMax, u, v), "max(u,v)"},
		{pair(impl.LevelImax, u, zero()), "imax(u,0)"},
		{succ(pair(impl.LevelMax, succ(zero(), 2), succ(u, 12)), 3), "max(2,u+12)+3"},
		{pair(impl.LevelImax, succ(pair(impl.LevelImax, u, v), 1), pair(impl.LevelMax, zero(), u)), "imax(imax(u,v)+1,max(0,u))"},
	} {
		if got := impl.LevelText(c.l); got != c.text {
			t.Errorf("%d: %q for %q", i, got, c.text)
		}
	}
}

func readsBack(t *testing.T, l impl.Level) {
	t.Helper()
	text := impl.LevelText(l)
	if text == "" || len(text) > impl.MaxLevelText {
		t.Fatalf("%v: a text of %d bytes", l, len(text))
	}
	got, code := impl.ParseLevel(text)
	if code != 0 || !sameNodes(got, l) {
		t.Fatalf("%q: code %d, %v", text, code, got)
	}
}

func TestTextsAreReadBack(t *testing.T) {
	for _, l := range smallLevels(6, "u", "v") {
		readsBack(t, l)
	}
	r := rand.New(rand.NewSource(2))
	long := strings.Repeat("p", impl.MaxName-1)
	names := []string{"u", "max1", "_", long + "a", long + "b", "imaxx"}
	for range 20000 {
		readsBack(t, randomLevel(r, 1+r.Intn(impl.MaxLevel), names))
	}
	wide := param(long + "a")
	for range 31 {
		wide = pair(impl.LevelImax, wide, param(long+"b"))
	}
	readsBack(t, succ(wide, 1))
}

func TestDifferentLevelsHaveDifferentTexts(t *testing.T) {
	seen := map[string]int{}
	levels := smallLevels(6, "u", "v")
	for _, l := range levels {
		seen[impl.LevelText(l)]++
	}
	if len(seen) != len(levels) {
		t.Errorf("%d texts of %d levels", len(seen), len(levels))
	}
}

func TestParseLevelReads(t *testing.T) {
	for _, c := range [][2]string{
		{"0", "0"}, {"00", "0"}, {"0000", "0"}, {"0063", "63"}, {"0+0", "0"}, {"1+0+2", "3"}, {"u+0", "u"}, {"u+0000", "u"}, {"u+0002", "u+2"}, {"u+1+1+0+1", "u+3"}, {"u+30+33", "u+63"},
		{"max(1+1,u+0)+0", "max(2,u)"}, {"imax(max(0,u)+1+1,imax(v,00))+1+01", "imax(max(0,u)+2,imax(v,0))+2"}, {"maxi", "maxi"}, {"max'", "max'"}, {"imax1+1", "imax1+1"}, {"_", "_"},
		{"u1" + strings.Repeat("+0", 1499), "u1"}, {strings.Repeat("u", impl.MaxName), strings.Repeat("u", impl.MaxName)},
		{"max(a,max(b,max(c,max(d,max(e,max(f,a))))))", "max(a,max(b,max(c,max(d,max(e,max(f,a))))))"},
	} {
		l, code := impl.ParseLevel(c[0])
		if code != 0 || !impl.LevelOk(l) || impl.LevelText(l) != c[1] {
			t.Errorf("%q: code %d, %q", c[0], code, impl.LevelText(l))
		}
	}
}

func TestParseLevelRefuses(t *testing.T) {
	seven := "max(a,max(b,max(c,max(d,max(e,max(f,g))))))"
	for _, c := range []struct {
		text string
		code int
	}{
		{"", impl.CodeText}, {" ", impl.CodeText}, {" 0", impl.CodeText}, {"0 ", impl.CodeText}, {"u +1", impl.CodeText}, {"u+ 1", impl.CodeText}, {"max(u, v)", impl.CodeText}, {"max (u,v)", impl.CodeText}, {"u\n", impl.CodeText}, {"u\x00", impl.CodeText},
		{"+", impl.CodeText}, {"+1", impl.CodeText}, {"u+", impl.CodeText}, {"u++1", impl.CodeText}, {"u+v", impl.CodeText}, {"1+u", impl.CodeText}, {"u-1", impl.CodeText}, {"-1", impl.CodeText}, {"u+-1", impl.CodeText}, {"1u", impl.CodeText}, {"u+1v", impl.CodeText},
		{"00000", impl.CodeText}, {"00001", impl.CodeText}, {"10000", impl.CodeText}, {"u+00000", impl.CodeText}, {"99999999999999999999999", impl.CodeText},
		{"max", impl.CodeText}, {"imax", impl.CodeText}, {"max+1", impl.CodeText}, {"max(max,u)", impl.CodeText}, {"max()", impl.CodeText}, {"max(u)", impl.CodeText}, {"max(u,)", impl.CodeText}, {"max(,u)", impl.CodeText}, {"max(u,v", impl.CodeText}, {"max(u,v,w)", impl.CodeText}, {"max(u,v)w", impl.CodeText}, {"max(u,v))", impl.CodeText}, {"max(u;v)", impl.CodeText}, {"imax(u,v", impl.CodeText}, {"(u)", impl.CodeText}, {"MAX(u,v)", impl.CodeText}, {"min(u,v)", impl.CodeText},
		{"'u", impl.CodeText}, {"u.v", impl.CodeText}, {"ü", impl.CodeText}, {strings.Repeat("u", impl.MaxName+1), impl.CodeText},
		{"u" + strings.Repeat("+0", 1500), impl.CodeText}, {"u" + strings.Repeat("+9999", 600), impl.CodeText}, {strings.Repeat("max(", 750), impl.CodeText}, {strings.Repeat("(", 2000000), impl.CodeText},
		{"64", impl.CodeSize}, {"9999", impl.CodeSize}, {"0064", impl.CodeSize}, {"u+64", impl.CodeSize}, {"u+32+32", impl.CodeSize}, {"max(31,31)", impl.CodeSize}, {"u" + strings.Repeat("+9999", 599), impl.CodeSize}, {seven, impl.CodeSize}, {"i" + seven, impl.CodeSize},
		{"64+", impl.CodeText}, {"u+64 ", impl.CodeText}, {"max(9999,u", impl.CodeText}, {"max(9999,10000)", impl.CodeText}, {seven + ")", impl.CodeText}, {strings.Repeat("0", impl.MaxLevelText+1), impl.CodeText},
	} {
		l, code := impl.ParseLevel(c.text)
		if code != c.code || len(l.Nodes) != 0 {
			t.Errorf("%.60q: code %d for %d, %d nodes", c.text, code, c.code, len(l.Nodes))
		}
	}
}

func TestParseLevelNodesAtLimit(t *testing.T) {
	for nodes, code := range map[int]int{impl.MaxLevel: 0, impl.MaxLevel + 1: impl.CodeSize} {
		for _, text := range []string{fmt.Sprint(nodes - 1), fmt.Sprint("v+", nodes-1), fmt.Sprint("max(u,v)+", nodes-3), fmt.Sprint("imax(10,v+", nodes-13, ")")} {
			l, got := impl.ParseLevel(text)
			if got != code || code == 0 && len(l.Nodes) != nodes {
				t.Errorf("%q: code %d, %d nodes", text, got, len(l.Nodes))
			}
		}
	}
}

// A changed text of a level is read as what LevelText then gives again, or not at all.
func TestParseLevelOfAnyBytes(t *testing.T) {
	r := rand.New(rand.NewSource(3))
	signs := "uv01+,()maxi '\x00"
	read := 0
	for range 200000 {
		text := []byte(impl.LevelText(randomLevel(r, 1+r.Intn(8), []string{"u", "v"})))
		for range r.Intn(3) {
			text[r.Intn(len(text))] = signs[r.Intn(len(signs))]
		}
		l, code := impl.ParseLevel(string(text))
		if code == 0 {
			read++
			readsBack(t, l)
		} else if code != impl.CodeText && code != impl.CodeSize || len(l.Nodes) != 0 {
			t.Fatalf("%q: code %d", text, code)
		}
	}
	if read < 10000 {
		t.Errorf("only %d were read", read)
	}
}
