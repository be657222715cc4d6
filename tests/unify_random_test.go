package tests

import (
	"math/rand"
	"slices"
	"strconv"
	"strings"
	"testing"

	"loop.example/g00005/impl"
)

// unifyMaker draws states, and terms with their holes.
type unifyMaker struct {
	r *rand.Rand
}

func (m *unifyMaker) one(texts []string) string {
	return texts[m.r.Intn(len(texts))]
}

// holeTypes are types of holes, with what an application of such a hole to
// variables and other terms of Nat may look like, and a Value.
func holeTypes() [][3]string {
	return [][3]string{
		{"Nat", "%", "[Nat.succ one]"},
		{"Nat", "%", "four"},
		{"Nat", "%", "[Nat.succ ?0]"},
		{"[! n 1 Nat Nat]", "[% @]", "[^ x 0 Nat [[f #0] #0]]"},
		{"Fun", "[% @]", "[add two]"},
		{"Fun", "[% @]", "[^ x 0 Nat [?1 #0]]"},
		{"Op", "[[% @] @]", "[^ x 0 Nat [^ y 0 Nat [[f #0] #1]]]"},
		{"Op", "[[% @] @]", "f"},
		{"[! a 0 Nat [! b 2 Nat Nat]]", "[[% @] @]", "[^ x 0 Nat [add #0]]"},
		{"[! a 0 Nat [[Prod{0,0} Nat] Nat]]", "[. Prod 0 [% @]]", "[^ x 0 Nat [[[[Prod.mk{0,0} Nat] Nat] #0] two]]"},
		{"[! g 0 Fun Nat]", "[% #2]", "[^ g 0 Fun [#0 two]]"},
		{"[[id{2} *1] Fun]", "[% @]", "Nat.succ"},
	}
}

// state has a few holes and level holes, some of which are known.
func (m *unifyMaker) state() (impl.State, []string) {
	var s impl.State
	var uses []string
	for i := range 2 + m.r.Intn(4) {
		c := holeTypes()[m.r.Intn(len(holeTypes()))]
		h := impl.Hole{Type: read(c[0]), Class: m.r.Intn(4) == 0}
		if m.r.Intn(4) == 0 && fitsValue(s, c[2]) {
			h.Value = read(c[2])
		}
		s.Holes = append(s.Holes, h)
		use := strings.ReplaceAll(c[1], "%", "?"+strconv.Itoa(i))
		pattern := strings.Replace(strings.Replace(use, "@", "#4", 1), "@", "#3", 1)
		uses = append(uses, use, pattern, pattern)
	}
	for range 3 {
		s.Levels = append(s.Levels, impl.Level{})
	}
	if m.r.Intn(3) == 0 {
		s.Levels[2], _ = impl.ParseLevel(m.one([]string{"1", "_1+1", "u", "max(_1,1)"}))
	}
	return s, uses
}

// fitsValue says whether the holes that come up in a Value are there, with the
// types that it wants.
func fitsValue(s impl.State, value string) bool {
	switch {
	case strings.Contains(value, "?0"):
		return len(s.Holes) > 0 && written(s.Holes[0].Type) == "Nat"
	case strings.Contains(value, "?1"):
		return len(s.Holes) > 1 && written(s.Holes[1].Type) == "Fun"
	}
	return true
}

// number draws a term of Nat in the context of unifyContext.
func (m *unifyMaker) number(uses []string, depth int) string {
	if depth <= 0 {
		return m.one([]string{"#4", "#4", "#3", "two", "deuce", "one", "uno", "three", "four", "Nat.zero", "[. Prod 0 #1]", "some"})
	}
	heads := []string{"[Nat.succ @]", "[[add @] @]", "[[f @] @]", "[double @]", "[[const @] @]", "[[none @] @]", "[[swap @] @]", "[[none_at{_1} Nat] @]", "[#2 @]", "[[id{1} Nat] @]", "[[id{_0} Nat] @]", "[[same{_1} Nat] @]",
		"[[[[Nat.rec{1} [^ t 0 Nat Nat]] @] " + addStep + "] @]", "[[^ x 0 Nat [[add #0] #0]] @]", "[= x Nat @ [[f #0] #0]]", "[[[id{_2} Fun] Nat.succ] @]",
		"[. Prod 0 [[[[Prod.mk{0,0} Nat] Nat] @] @]]", "[[poly{_0,_1} Nat] Nat]", "[[poly{_2,1} Nat] [! x 0 Nat [[Vec{1} Nat] #0]]]", "[of [^ x 0 Nat [[f #0] @^]]]", "[of #2]", "[of Nat.succ]"}
	text := m.one(append(heads, uses...))
	if m.r.Intn(3) == 0 {
		text = m.one(uses)
	}
	for strings.Contains(text, "@") {
		part := m.number(uses, depth-1-m.r.Intn(2))
		if i := strings.Index(text, "@"); strings.HasPrefix(text[i:], "@^") {
			up, _ := impl.Lift(read(part), 0, 1)
			text = strings.Replace(text, "@^", written(up), 1)
		} else {
			text = strings.Replace(text, "@", part, 1)
		}
	}
	return text
}

// terms draws two terms that may become the same: of types, or of numbers.
func (m *unifyMaker) terms(uses []string) (impl.Term, impl.Term) {
	frames := []string{"%", "%", "%", "%", "[[[Eq{1} Nat] %] %]", "[! x 0 [[Vec{1} Nat] %] Nat]", "[[rel %] %]", "*_0", "*max(_1,_0)+1", "*_2+1", "[^ x 0 Nat %]", "[^ x 0 *_0 %]", "[id{_0} Nat]"}
	a := m.one(frames)
	b := a
	if m.r.Intn(5) == 0 {
		b = m.one(frames)
	}
	depth := 1 + m.r.Intn(3)
	return m.frame(a, uses, depth), m.frame(b, uses, depth)
}

func (m *unifyMaker) frame(text string, uses []string, depth int) impl.Term {
	for strings.Contains(text, "%") {
		part := m.number(uses, depth)
		if strings.HasPrefix(text, "[^") {
			up, _ := impl.Lift(read(part), 0, 1)
			part = written(up)
		}
		text = strings.Replace(text, "%", part, 1)
	}
	return read(text)
}

// alike is a with other parts here and there.
func (m *unifyMaker) alike(x tree, uses []string, under int) tree {
	if m.r.Intn(6) == 0 && x.node.K != impl.TermLam && (x.node.K == impl.TermApp || x.node.K == impl.TermVar) {
		up, _ := impl.Lift(read(m.number(uses, m.r.Intn(2))), 0, under)
		return treeOf(up)
	}
	if x.node.K != impl.TermApp {
		return x
	}
	y := tree{x.node, slices.Clone(x.kids)}
	y.kids[1] = m.alike(x.kids[1], uses, under)
	if x.kids[0].node.K == impl.TermApp {
		y.kids[0] = m.alike(x.kids[0], uses, under)
		if y.kids[0].node.K != impl.TermApp {
			y.kids[0] = x.kids[0]
		}
	}
	return y
}

func TestUnifyOfRandomTerms(t *testing.T) {
	t.Parallel()
	r := rand.New(rand.NewSource(151))
	m := &unifyMaker{r}
	e := unifyEnv()
	w := slowStepsIn(e)
	codes := map[int]int{}
	set, later := 0, 0
	for range 1500 {
		s, uses := m.state()
		if !impl.StateOk(e, s) {
			continue
		}
		a, b := m.terms(uses)
		if r.Intn(2) == 0 {
			b = m.alike(treeOf(a), uses, 0).term()
		}
		ctx := unifyContext()
		after, code := unifyAsk{s, ctx, a, b}.holdSlow(t, w, r.Intn(1+r.Intn(150)))
		codes[code]++
		if code != 0 {
			continue
		}
		if !impl.StateOk(e, after) {
			t.Fatalf("%s and %s: not a valid state:\n%s", told(a), told(b), stateText(after))
		}
		if len(after.Later) > 0 {
			later++
		} else if !equalStates(after, s) {
			set++
		}
		_, code = unifyAsk{s: after}.holdSlow(t, w, r.Intn(1+r.Intn(150)))
		codes[code]++
	}
	if codes[0] < 1000 || codes[impl.CodeUnify] < 150 || codes[impl.CodeFuel] < 80 || codes[slowLost] > 50 || set < 80 || later < 80 {
		t.Errorf("codes %v, %d set, %d later", codes, set, later)
	}
}

// leveledTerm has level holes for some of its parameters.
func leveledTerm(r *rand.Rand, x impl.Term) impl.Term {
	for _, name := range []string{"u", "q"} {
		if r.Intn(2) == 0 {
			x, _ = impl.PutParams(x, []string{name}, []impl.Level{param("_" + strconv.Itoa(r.Intn(2)))})
		}
	}
	return x
}

// anyState has holes whose types and Values are any closed terms.
func (m *stepMaker) anyState(ctx []impl.Term) impl.State {
	var s impl.State
	closed := func() impl.Term {
		return leveledTerm(m.r, m.small(func() impl.Term { return m.busy(m.r.Intn(3), -2) }))
	}
	for range 3 {
		h := impl.Hole{Type: closed(), Class: m.r.Intn(2) == 0}
		for range m.r.Intn(4) {
			h.Type = pi("x", m.r.Intn(3), closed(), h.Type)
		}
		if m.r.Intn(6) == 0 {
			h.Value = closed()
		}
		s.Holes = append(s.Holes, h)
	}
	for range 2 {
		level := impl.Level{}
		if m.r.Intn(5) == 0 {
			level = randomLevel(m.r, 2, []string{"_0", "_1", "u"})
		}
		s.Levels = append(s.Levels, level)
	}
	for range m.r.Intn(3) {
		count := m.r.Intn(len(ctx) + 1)
		x, y := m.anyPair(count)
		s.Later = append(s.Later, impl.Pair{Ctx: copyTerms(ctx[:count]), A: x, B: y})
	}
	return s
}

// anyPair is two terms in a context of so many types, with holes that are applied
// to its variables.
func (m *stepMaker) anyPair(count int) (impl.Term, impl.Term) {
	x := leveledTerm(m.r, m.small(func() impl.Term { return m.open(m.r.Intn(4), count) }))
	y := leveledTerm(m.r, m.other(x, count))
	for range m.r.Intn(3) {
		f := hole(m.r.Intn(3))
		for _, i := range m.r.Perm(count) {
			if m.r.Intn(2) == 0 {
				f = app(f, variable(i))
			}
		}
		switch m.r.Intn(4) {
		case 0:
			x = f
		case 1:
			y = f
		case 2:
			x, y = app(x, f), app(y, m.small(func() impl.Term { return m.open(m.r.Intn(2), count) }))
		case 3:
			x, y = app(x, f), app(y, f)
		}
	}
	return x, y
}

// Terms and types of any kind, over environments of any kind.
func TestUnifyOfAnyTerms(t *testing.T) {
	t.Parallel()
	r := rand.New(rand.NewSource(153))
	codes := map[int]int{}
	changed, invalid := 0, 0
	for i := range 90 {
		e := unifyEnv()
		switch i % 3 {
		case 1:
			e = randomEnv(r).e
		case 2:
			e = familyEnv(r)
		}
		m, w := newStepMaker(r, e), slowStepsIn(e)
		for range 20 {
			ctx := m.context(r.Intn(4))
			for k := range ctx {
				ctx[k] = leveledTerm(r, ctx[k])
			}
			s := m.anyState(ctx)
			x, y := m.anyPair(len(ctx))
			if !impl.StateOk(e, s) {
				invalid++
				unifyAsk{s, ctx, x, y}.hold(t, e, 10, impl.State{}, 0, impl.CodeInput)
				continue
			}
			fuel := r.Intn(1 + r.Intn(80))
			after, code := unifyAsk{s, ctx, x, y}.holdSlow(t, w, fuel)
			codes[code]++
			if code == 0 && !equalStates(after, s) {
				changed++
				holdKept(t, s, after)
				if !impl.StateOk(e, after) {
					t.Errorf("not a valid state:\n%s", stateText(after))
				}
			}
			_, code = unifyAsk{s: s}.holdSlow(t, w, fuel)
			codes[code]++
		}
	}
	for _, code := range []int{0, impl.CodeFuel, impl.CodeUnify, impl.CodeFun, impl.CodeSort} {
		if codes[code] < 25 {
			t.Errorf("only %d of code %d", codes[code], code)
		}
	}
	if changed < 100 || invalid > 800 || codes[slowLost] > 100 {
		t.Errorf("%d changed, %d not valid, codes %v", changed, invalid, codes)
	}
}
