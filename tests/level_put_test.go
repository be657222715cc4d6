package tests

import (
	"math/rand"
	"testing"

	"loop.example/g00005/impl"
)

// putByHand goes by the nodes from the left, with the roots that have no
// parent yet: another way than the program's.
func putByHand(l impl.Level, put map[string]impl.Level) impl.Level {
	var parts []impl.Level
	for _, n := range l.Nodes {
		last := len(parts) - 1
		switch n.K {
		case impl.LevelZero:
			parts = append(parts, zero())
		case impl.LevelParam:
			if with, ok := put[n.S]; ok {
				parts = append(parts, with)
			} else {
				parts = append(parts, param(n.S))
			}
		case impl.LevelSucc:
			parts[last] = succ(parts[last], 1)
		default:
			parts = append(parts[:last-1], pair(n.K, parts[last-1], parts[last]))
		}
	}
	return parts[0]
}

func TestLevelPutAndValue(t *testing.T) {
	r := rand.New(rand.NewSource(7))
	all := []string{"u", "v", "w"}
	ways := allValues(all, []int{0, 1, 2, 5})
	for range 3000 {
		l := randomLevel(r, 1+r.Intn(8), all)
		a, b := randomLevel(r, 1+r.Intn(6), all), randomLevel(r, 1+r.Intn(6), all)
		got, code := impl.LevelPut(l, []string{"u", "w", "u"}, []impl.Level{a, b, succ(zero(), 9)})
		want := putByHand(l, map[string]impl.Level{"u": a, "w": b})
		if code != 0 || !sameNodes(got, want) {
			t.Fatalf("%s: code %d, %s", impl.LevelText(l), code, impl.LevelText(got))
		}
		for _, way := range ways {
			inner := []int{numberOf(a, way), way["v"], numberOf(b, way)}
			x, ok := impl.LevelValue(got, all, []int{way["u"], way["v"], way["w"]})
			y, good := impl.LevelValue(l, all, inner)
			if !ok || !good || x != y {
				t.Fatalf("%s at %v: %d and %d", impl.LevelText(got), way, x, y)
			}
		}
	}
}

func TestLevelPutKeepsTheOrder(t *testing.T) {
	r := rand.New(rand.NewSource(8))
	names := []string{"u", "v"}
	for range 20000 {
		a, b := randomLevel(r, 6, names), randomLevel(r, 6, names)
		with := []impl.Level{randomLevel(r, 4, names), randomLevel(r, 4, names)}
		x, c := impl.LevelPut(a, names, with)
		y, d := impl.LevelPut(b, names, with)
		if c != 0 || d != 0 || impl.LevelLeq(a, b) && !impl.LevelLeq(x, y) {
			t.Fatalf("%s and %s: %d %d", impl.LevelText(a), impl.LevelText(b), c, d)
		}
	}
}

func TestLevelPutTexts(t *testing.T) {
	for _, c := range []struct {
		l     string
		names []string
		with  []string
		want  string
	}{
		{"u", nil, nil, "u"},
		{"0", []string{"u"}, []string{"3"}, "0"},
		{"u+2", []string{"u"}, []string{"3"}, "5"},
		{"u+2", []string{"u"}, []string{"v+3"}, "v+5"},
		{"max(u,v)", []string{"u", "v"}, []string{"v", "u"}, "max(v,u)"},
		{"imax(u,u)", []string{"u"}, []string{"max(u,1)"}, "imax(max(u,1),max(u,1))"},
		{"u", []string{"v", "u", "u"}, []string{"1", "2", "3"}, "2"},
		{"imax(u,v)", []string{"", "no name", "max"}, []string{"1", "2", "3"}, "imax(u,v)"},
		{"max(a,max(b,max(c,max(d,max(e,f)))))", []string{"a"}, []string{"g"}, "max(g,max(b,max(c,max(d,max(e,f)))))"},
	} {
		var with []impl.Level
		for _, text := range c.with {
			with = append(with, parsed(t, text))
		}
		got, code := impl.LevelPut(parsed(t, c.l), c.names, with)
		if code != 0 || impl.LevelText(got) != c.want {
			t.Errorf("%s: code %d, %q", c.l, code, impl.LevelText(got))
		}
	}
}

func TestLevelPutCodes(t *testing.T) {
	u, wrong := param("u"), impl.Level{}
	six := chain(impl.LevelMax, "a", "b", "c", "d", "e", "f")
	wide := u
	for range 31 {
		wide = pair(impl.LevelMax, wide, u)
	}
	for i, c := range []struct {
		l      impl.Level
		names  []string
		levels []impl.Level
		code   int
	}{
		{wrong, nil, nil, impl.CodeInput},
		{u, []string{"u"}, nil, impl.CodeInput},
		{u, nil, []impl.Level{u}, impl.CodeInput},
		{u, []string{"u"}, []impl.Level{wrong}, impl.CodeInput},
		{u, []string{"v"}, []impl.Level{wrong}, impl.CodeInput},
		{u, []string{"u", "u"}, []impl.Level{u, wrong}, impl.CodeInput},
		{succ(u, 40), []string{"u", "v"}, []impl.Level{succ(u, 40), wrong}, impl.CodeInput},
		{succ(u, 23), []string{"u"}, []impl.Level{succ(u, 40)}, 0},
		{succ(u, 24), []string{"u"}, []impl.Level{succ(u, 40)}, impl.CodeSize},
		{succ(u, 24), []string{"v"}, []impl.Level{succ(u, 40)}, 0},
		{wide, []string{"u"}, []impl.Level{zero()}, 0},
		{wide, []string{"u"}, []impl.Level{succ(u, 63)}, impl.CodeSize},
		{six, []string{"a"}, []impl.Level{param("g")}, 0},
		{six, []string{"a"}, []impl.Level{chain(impl.LevelMax, "b", "g")}, 0},
		{six, []string{"a"}, []impl.Level{chain(impl.LevelMax, "a", "g")}, impl.CodeSize},
		{chain(impl.LevelImax, "u", "v"), []string{"u", "v"}, []impl.Level{six, param("g")}, impl.CodeSize},
	} {
		got, code := impl.LevelPut(c.l, c.names, c.levels)
		if code != c.code || impl.LevelOk(got) != (code == 0) || code != 0 && len(got.Nodes) != 0 {
			t.Errorf("%d: code %d for %d", i, code, c.code)
		}
	}
}

// spoil writes over all that an answer holds, and over what room it has left.
func spoil(l impl.Level) {
	nodes := l.Nodes[:cap(l.Nodes)]
	for i := range nodes {
		kids := nodes[i].Kids[:cap(nodes[i].Kids)]
		for k := range kids {
			kids[k] = -7
		}
		nodes[i] = impl.LNode{K: 99, S: "spoilt"}
	}
}

func TestLevelAnswersAreNewMemory(t *testing.T) {
	l, a := parsed(t, "imax(u+1,max(u,v))"), parsed(t, "max(v,2)")
	oldL, oldA := copyLevel(l), copyLevel(a)
	names, levels := []string{"u", "w"}, []impl.Level{a, l}
	got, code := impl.LevelPut(l, names, levels)
	if code != 0 || impl.LevelText(got) != "imax(max(v,2)+1,max(max(v,2),v))" {
		t.Fatalf("code %d, %q", code, impl.LevelText(got))
	}
	for i := range got.Nodes {
		for k := range got.Nodes[i].Kids {
			other := copyLevel(got)
			old := got.Nodes[i].Kids[k]
			got.Nodes[i].Kids[k], other.Nodes[i].Kids[k] = -7, -7
			_ = append(got.Nodes[i].Kids, -8)
			if !sameNodes(got, other) {
				t.Fatalf("the kids of node %d stand in another list, too", i)
			}
			got.Nodes[i].Kids[k] = old
		}
	}
	same, _ := impl.LevelPut(l, nil, nil)
	spoil(got)
	spoil(same)
	if !sameNodes(l, oldL) || !sameNodes(a, oldA) || names[0] != "u" || names[1] != "w" {
		t.Errorf("an argument was written to")
	}
	first, second := parsed(t, "max(u,1)"), parsed(t, "max(u,1)")
	spoil(first)
	if impl.LevelText(second) != "max(u,1)" || impl.LevelText(parsed(t, "max(u,1)")) != "max(u,1)" {
		t.Errorf("two answers share memory")
	}
}

func TestLevelArgumentsStay(t *testing.T) {
	for _, l := range append(wrongLevels(), parsed(t, "imax(max(u,1)+1,v+2)")) {
		old := copyLevel(l)
		values := []int{3, 4}
		impl.LevelOk(l)
		impl.LevelText(l)
		impl.LevelValue(l, []string{"u", "v"}, values)
		impl.LevelLeq(l, l)
		impl.LevelSame(l, param("u"))
		impl.LevelSign(l)
		impl.LevelPut(l, []string{"u"}, []impl.Level{l})
		if !sameNodes(l, old) || values[0] != 3 || values[1] != 4 {
			t.Errorf("%v was changed", old)
		}
	}
}
