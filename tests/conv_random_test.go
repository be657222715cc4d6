package tests

import (
	"math/rand"
	"strconv"
	"testing"

	"loop.example/g00005/impl"
)

// wrapped is a term that becomes x by a step or a few.
func (m *stepMaker) wrapped(x impl.Term) impl.Term {
	up, _ := impl.Lift(x, 0, 1)
	switch m.r.Intn(3) {
	case 0:
		return app(lam("x", 0, prop(), up), prop())
	case 1:
		return app(lam("x", 0, prop(), variable(0)), x)
	}
	return let("x", prop(), prop(), up)
}

// varied is x with one part wrapped, or with another leaf.
func (m *stepMaker) varied(x tree, under int) tree {
	if len(x.kids) == 0 || m.r.Intn(5) == 0 {
		if m.r.Intn(3) == 0 {
			return treeOf(m.leaf(under, []string{"u", "q"}))
		}
		return treeOf(m.wrapped(x.term()))
	}
	y := tree{x.node, append([]tree(nil), x.kids...)}
	kid := m.r.Intn(len(x.kids))
	y.kids[kid] = m.varied(x.kids[kid], under+x.inside(kid))
	return y
}

// other is a term to hold x against, in a context of so many types.
func (m *stepMaker) other(x impl.Term, count int) impl.Term {
	y, code := impl.Term{}, 1
	switch m.r.Intn(7) {
	case 0:
		y, _, code = impl.Step(m.e, x)
	case 1:
		y, _, code = impl.Whnf(m.e, x, m.r.Intn(2) == 0, 20)
	case 2:
		y, _, code = impl.Normal(m.e, x, 30)
	case 3:
		return m.small(func() impl.Term { return m.open(1+m.r.Intn(3), count) })
	}
	if code != 0 || len(y.Nodes) > 300 {
		return m.varied(treeOf(x), count).term()
	}
	return y
}

// convCounts are the answers and codes that were met.
type convCounts struct {
	yes, no int
	codes   map[int]int
}

func (c *convCounts) add(same bool, code int) {
	c.codes[code]++
	if code == 0 && same {
		c.yes++
	} else if code == 0 {
		c.no++
	}
}

// holdAll asks in each way, and in turn.
func (c *convCounts) holdAll(t *testing.T, w *slowSteps, ctx []impl.Term, x, y impl.Term, fuel int) {
	t.Helper()
	for way := range 3 {
		q := convAsk{way, ctx, x, y}
		c.add(q.holdSlow(t, w, fuel))
		c.add(q.turned().holdSlow(t, w, fuel))
	}
}

func TestConvOfRandomTerms(t *testing.T) {
	t.Parallel()
	r := rand.New(rand.NewSource(91))
	counts := &convCounts{codes: map[int]int{}}
	for i := range 120 {
		e := convEnv()
		switch i % 3 {
		case 1:
			e = randomEnv(r).e
		case 2:
			e = familyEnv(r)
		}
		m, w := newStepMaker(r, e), slowStepsIn(e)
		for range 5 {
			ctx := m.context(r.Intn(5))
			if i%3 == 0 && r.Intn(2) == 0 {
				ctx = convContext()
			}
			for range 6 {
				x := m.small(func() impl.Term { return m.open(1+r.Intn(4), len(ctx)) })
				counts.holdAll(t, w, ctx, x, m.other(x, len(ctx)), r.Intn(1+r.Intn(1+r.Intn(60))))
			}
		}
	}
	for _, code := range []int{impl.CodeFuel, impl.CodeFun, impl.CodeSort, impl.CodeProj, impl.CodeHole} {
		if counts.codes[code] < 50 {
			t.Errorf("only %d of code %d", counts.codes[code], code)
		}
	}
	if counts.yes < 1000 || counts.no < 1000 || counts.codes[slowLost] > 100 {
		t.Errorf("%d yes, %d no, codes %v", counts.yes, counts.no, counts.codes)
	}
}

// Terms of one head over arguments that differ here and there: most of what is
// compared is a spine then.
func TestConvOfRandomSpines(t *testing.T) {
	t.Parallel()
	r := rand.New(rand.NewSource(92))
	e, ctx := convEnv(), convContext()
	w := slowStepsIn(e)
	counts := &convCounts{codes: map[int]int{}}
	leaves := []string{
		"#11", "#11", "#10", "two", "deuce", "one", "uno", "three", "trey", "four", "[[id{1} Nat] two]", "[[first two] #11]", "[[second #11] deuce]",
		"[#9 #11]", "[#9 two]", "[. Prod 0 #7]", "[[add two] one]", "[Nat.succ deuce]", "[Nat.succ [Nat.succ Nat.zero]]", "[. Prod 0 [[[[Prod.mk{0,0} Nat] Nat] two] #11]]",
		"[[by two] #2]", "[[by deuce] #1]", "[of #9]", "[of [^ x 0 Nat [#10 #0]]]", "[of [[id{1} Fun] #9]]", "[= x Nat two #0]", "[fun deuce]", "[fun two]",
	}
	heads := []string{"[add @ @]", "[first @ @]", "[second @ @]", "[Nat.succ @]", "[#9 @]", "[[Eq{1} Nat] @ @]", "[fun @]", "[[id{1} Nat] @]", "[unary @ @]", "[[nary two] @ @]",
		"[[[[Nat.rec{1} [^ t 0 Nat Nat]] @] " + addStep + "] @]", "[[Prod.mk{0,0} Nat] Nat @ @]", "[[Vec{1} Nat] @]", "[[^ x 0 Nat [[add #0] #0]] @]"}
	var make func(depth int) tree
	make = func(depth int) tree {
		if depth == 0 {
			return treeOf(read(leaves[r.Intn(len(leaves))]))
		}
		text := heads[r.Intn(len(heads))]
		return filled(text, func() tree { return make(r.Intn(depth)) })
	}
	m := newStepMaker(r, e)
	for range 1200 {
		x := make(1 + r.Intn(2))
		y := x.swapped(r, func() tree { return make(0) })
		if r.Intn(4) == 0 {
			y = m.varied(y, len(ctx))
		}
		counts.holdAll(t, w, ctx, x.term(), y.term(), r.Intn(1+r.Intn(200)))
	}
	if counts.yes < 1000 || counts.no < 1000 || counts.codes[slowLost] > 100 {
		t.Errorf("%d yes, %d no, codes %v", counts.yes, counts.no, counts.codes)
	}
}

// filled reads a text of a head and its arguments in one pair of brackets, with
// terms for each @.
func filled(text string, fill func() tree) tree {
	var parts []tree
	depth, from := 0, 1
	for i := 1; i < len(text); i++ {
		switch {
		case text[i] == '[':
			depth++
		case text[i] == ']' && depth > 0:
			depth--
		case depth == 0 && (text[i] == ' ' || text[i] == ']'):
			if text[from:i] == "@" {
				parts = append(parts, fill())
			} else {
				parts = append(parts, filledPart(text[from:i], fill))
			}
			from = i + 1
		}
	}
	return apply(parts[0], parts[1:])
}

// filledPart is a part that may have an @ itself.
func filledPart(text string, fill func() tree) tree {
	for i := range len(text) {
		if text[i] == '@' {
			return filled(text, fill)
		}
	}
	return treeOf(read(text))
}

// swapped has other arguments here and there.
func (x tree) swapped(r *rand.Rand, other func() tree) tree {
	if x.node.K != impl.TermApp {
		return x
	}
	y := tree{x.node, []tree{x.kids[0].swapped(r, other), x.kids[1].swapped(r, other)}}
	if r.Intn(6) == 0 && y.kids[1].node.K != impl.TermLam && y.kids[1].text() != "Nat" {
		y.kids[1] = other()
	}
	return y
}

// Contexts and terms with a mistake.
func TestConvOfAnyInput(t *testing.T) {
	t.Parallel()
	r := rand.New(rand.NewSource(93))
	counts := &convCounts{codes: map[int]int{}}
	refused := 0
	for i := range 80 {
		e := randomEnv(r)
		m, w := newStepMaker(r, e.e), slowStepsIn(e.e)
		for k := range 5 {
			ctx := m.context(1 + r.Intn(4))
			if at := r.Intn(len(ctx)); r.Intn(4) == 0 {
				ctx[at] = m.spoiltTerm(ctx[at])
			}
			x := m.small(func() impl.Term { return m.open(r.Intn(4), len(ctx)) })
			y := m.other(x, len(ctx))
			switch r.Intn(4) {
			case 0:
				x = m.spoiltTerm(x)
			case 1:
				y = m.spoiltTerm(y)
			}
			known := slowKnownFor(e.e, m.table, x, len(ctx)) && slowKnownFor(e.e, m.table, y, len(ctx))
			for place, typ := range ctx {
				known = known && slowKnownFor(e.e, m.table, typ, place)
			}
			if known {
				counts.holdAll(t, w, ctx, x, y, r.Intn(40))
				continue
			}
			refused++
			holdUncompared(t, "environment "+strconv.Itoa(i)+", term "+strconv.Itoa(k), e.e, ctx, x, y)
		}
		if broken := e.spoiltEnv(); !slowEnvOk(broken) {
			holdUncompared(t, "environment "+strconv.Itoa(i), broken, nil, prop(), prop())
			(convAsk{way: askIrrelevant, a: prop()}).hold(t, broken, 9, false, 0, impl.CodeInput)
		}
	}
	if refused < 100 || refused > 300 {
		t.Errorf("%d are refused", refused)
	}
}

// holdUncompared is for what Conv and ConvTypes do not take.
func holdUncompared(t *testing.T, what string, e impl.Env, ctx []impl.Term, a, b impl.Term) {
	t.Helper()
	for _, fuel := range []int{-1, 0, 1, 40, impl.MaxFuel, impl.MaxFuel + 1, -1 << 62, 1 << 62} {
		for _, way := range []int{askConv, askTypes} {
			same, work, code := convAsk{way, ctx, a, b}.ask(e, fuel)
			if same || work != 0 || code != impl.CodeInput {
				t.Errorf("%s: %d with fuel %d: %v, work %d, code %d", what, way, fuel, same, work, code)
			}
		}
	}
}
