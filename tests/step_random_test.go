package tests

import (
	"maps"
	"math/rand"
	"slices"
	"strconv"
	"testing"

	"loop.example/g00005/impl"
)

// stepMaker makes terms that have much to do, over an environment. They need no
// types.
type stepMaker struct {
	*envMaker
	families []impl.Decl
}

func newStepMaker(r *rand.Rand, e impl.Env) *stepMaker {
	m := &stepMaker{envMaker: &envMaker{r: r, table: map[string]impl.Info{}}}
	for _, d := range e.Decls {
		m.add(d)
		if d.Kind == impl.KindFamily && (!impl.IsProp(d) || r.Intn(3) == 0) {
			m.families = append(m.families, d)
		}
		if impl.IsStructure(d) {
			m.families = append(m.families, d, d, d)
		}
	}
	return m
}

func (m *stepMaker) named(name string) impl.Term {
	var levels []impl.Level
	for range m.table[name].Params {
		levels = append(levels, randomLevel(m.r, 2, []string{"u", "q"}))
	}
	return constant(name, levels...)
}

// args are so many terms, rarely one more or less.
func (m *stepMaker) args(count, depth, under int) []impl.Term {
	switch m.r.Intn(12) {
	case 0:
		count++
	case 1:
		count = max(0, count-1)
	}
	var list []impl.Term
	for range count {
		list = append(list, m.busy(depth-1, under))
	}
	return list
}

// made is a constructor with its arguments.
func (m *stepMaker) made(d impl.Decl, depth, under int) impl.Term {
	if len(d.Ctors) == 0 {
		return m.busy(depth-1, under)
	}
	c := d.Ctors[m.r.Intn(len(d.Ctors))]
	types, _ := piTypes(treeOf(c.Type))
	return app(m.named(c.Name), m.args(len(types), depth, under)...)
}

// recursor is one with its arguments and a major.
func (m *stepMaker) recursor(d impl.Decl, depth, under int) impl.Term {
	types, _ := piTypes(treeOf(d.Type))
	x := m.named(d.Name + ".rec")
	if len(x.Nodes[0].Levels) > impl.MaxParams {
		return m.busy(depth-1, under)
	}
	x = app(x, m.args(len(types)+1, depth-1, under)...)
	for range d.Ctors {
		minor := m.busy(depth-1, under)
		if m.r.Intn(2) == 0 {
			minor = lam("a", 0, prop(), lam("b", 1, prop(), m.busy(depth-2, under+2)))
		}
		x = app(x, minor)
	}
	return app(x, m.major(d, depth, under))
}

func (m *stepMaker) major(d impl.Decl, depth, under int) impl.Term {
	switch m.r.Intn(4) {
	case 0:
		return m.busy(depth-1, under)
	case 1:
		return app(lam("x", 0, prop(), m.made(d, depth-1, under+1)), m.busy(depth-2, under))
	}
	return m.made(d, depth, under)
}

// small is a term that is small enough for the slow way.
func (m *stepMaker) small(make func() impl.Term) impl.Term {
	x := make()
	for len(x.Nodes) > 200 {
		x = make()
	}
	return x
}

// busy is a term of so many levels of such things.
func (m *stepMaker) busy(depth, under int) impl.Term {
	if depth <= 0 || m.r.Intn(7) == 0 {
		if m.r.Intn(10) == 0 {
			return hole(m.r.Intn(3))
		}
		return m.leaf(under+2, []string{"u", "q"})
	}
	x := m.busyHead(depth, under)
	for m.r.Intn(4) == 0 {
		x = app(x, m.busy(depth-1, under))
	}
	return x
}

func (m *stepMaker) busyHead(depth, under int) impl.Term {
	switch m.r.Intn(9) {
	case 0:
		return app(lam("x", m.r.Intn(3), prop(), m.busy(depth-1, under+1)), m.busy(depth-1, under))
	case 1:
		return let("x", prop(), m.busy(depth-1, under), m.busy(depth-1, under+1))
	case 2:
		return lam("x", m.r.Intn(3), m.busy(depth-1, under), m.busy(depth-1, under+1))
	case 3:
		return pi("x", m.r.Intn(3), m.busy(depth-1, under), m.busy(depth-1, under+1))
	case 4:
		if name, n, ok := m.structure(); ok {
			return proj(name, n, m.major(m.e.Decls[m.table[name].Decl], depth, under))
		}
	case 5:
		if slices.Contains(m.names, "Quot.lift") {
			mk := app(m.named("Quot.mk"), m.args(3, depth-1, under)...)
			if m.r.Intn(3) == 0 {
				mk = m.busy(depth-1, under)
			}
			return app(app(m.named("Quot.lift"), m.args(5, depth-1, under)...), mk)
		}
	case 6:
		if len(m.names) > 0 {
			return m.named(m.names[m.r.Intn(len(m.names))])
		}
	}
	if len(m.families) == 0 {
		return app(m.busy(depth-1, under), m.busy(depth-1, under))
	}
	return m.recursor(m.families[m.r.Intn(len(m.families))], depth, under)
}

// stepCounts are the kinds and codes that were met.
type stepCounts struct {
	kinds [8]int
	codes map[int]int
}

// holdAgainstSlow holds all functions of the chapter against the slow way.
func holdAgainstSlow(t *testing.T, what string, w *slowSteps, x impl.Term, fuel int, counts *stepCounts) {
	t.Helper()
	y, kind := w.next(treeOf(x))
	counts.kinds[kind]++
	if y.size() > impl.MaxNodes/2 {
		return
	}
	got, gotKind, code := impl.Step(w.e, x)
	if code != 0 || gotKind != kind || !equalTerms(got, y.term()) {
		t.Fatalf("%s: kind %d, code %d\n%s\n%s, not kind %d\n%s", what, gotKind, code, written(x), told(got), kind, y.text())
	}
	name := w.blocked(treeOf(x))
	if blocked := impl.Blocked(w.e, x); blocked != name {
		t.Fatalf("%s: blocked by %q, not %q\n%s", what, blocked, name, written(x))
	}
	for _, deep := range []bool{false, true} {
		y, work, code := w.slowly(fuel, func(m *slowMeter) tree { return m.whnf(treeOf(x), deep) })
		counts.codes[code]++
		if code != slowLost {
			got, gotWork, gotCode := impl.Whnf(w.e, x, deep, fuel)
			holdSlow(t, what+": Whnf of "+written(x), got, gotWork, gotCode, y, work, code)
		}
	}
	y, work, code := w.slowly(fuel, func(m *slowMeter) tree { return m.normal(treeOf(x)) })
	counts.codes[code]++
	if code != slowLost {
		got, gotWork, gotCode := impl.Normal(w.e, x, fuel)
		holdSlow(t, what+": Normal of "+written(x), got, gotWork, gotCode, y, work, code)
	}
}

func holdSlow(t *testing.T, what string, got impl.Term, gotWork, gotCode int, y tree, work, code int) {
	t.Helper()
	want := impl.Term{}
	if code == 0 {
		want = y.term()
	}
	if gotWork != work || gotCode != code || !equalTerms(got, want) {
		t.Fatalf("%s\nwork %d, code %d\n%s, not work %d, code %d\n%s", what, gotWork, gotCode, told(got), work, code, told(want))
	}
}

// familyEnv has a family of the family maker.
func familyEnv(r *rand.Rand) impl.Env {
	base := baseConstants()
	e := envOf(eqFamily())
	for _, name := range slices.Sorted(maps.Keys(base)) {
		e = behind(e, base[name])
	}
	// the constants in the types of others come first
	slices.SortStableFunc(e.Decls, func(a, b impl.Decl) int { return len(constsIn(a.Type)) - len(constsIn(b.Type)) })
	return behind(e, randomFamily(r), declared(impl.KindDef, "two", "", "Nat", "[Nat.succ [Nat.succ Nat.zero]]"))
}

func TestStepsOfRandomTerms(t *testing.T) {
	t.Parallel()
	r := rand.New(rand.NewSource(71))
	counts := &stepCounts{codes: map[int]int{}}
	w := slowStepsIn(stepEnv())
	m := newStepMaker(r, w.e)
	for i := range 700 {
		x := m.small(func() impl.Term { return m.busy(2+r.Intn(4), 0) })
		holdAgainstSlow(t, "term "+strconv.Itoa(i), w, x, r.Intn(2+r.Intn(40)), counts)
	}
	for i := range 150 {
		e := randomEnv(r).e
		if i%2 == 0 {
			e = familyEnv(r)
		}
		m := newStepMaker(r, e)
		w := slowStepsIn(e)
		for k := range 10 {
			x := m.small(func() impl.Term { return m.busy(2+r.Intn(4), 0) })
			holdAgainstSlow(t, "environment "+strconv.Itoa(i)+", term "+strconv.Itoa(k), w, x, r.Intn(2+r.Intn(40)), counts)
		}
	}
	for kind, count := range counts.kinds {
		if count < 20 {
			t.Errorf("only %d of kind %d", count, kind)
		}
	}
	if counts.codes[0] < 1000 || counts.codes[impl.CodeFuel] < 200 || counts.codes[slowLost] > 50 {
		t.Errorf("codes %v", counts.codes)
	}
}

// Recursors and constructors of one family, one within the other.
func TestStepsOfRandomRecursors(t *testing.T) {
	t.Parallel()
	r := rand.New(rand.NewSource(72))
	counts := &stepCounts{codes: map[int]int{}}
	for i := range 250 {
		e := familyEnv(r)
		m, w := newStepMaker(r, e), slowStepsIn(e)
		d := w.decl("F")
		for k := range 5 {
			x := m.small(func() impl.Term { return m.recursor(d, 2+r.Intn(3), 0) })
			holdAgainstSlow(t, "family "+strconv.Itoa(i)+", term "+strconv.Itoa(k), w, x, r.Intn(2+r.Intn(40)), counts)
		}
	}
	if counts.kinds[impl.StepCase] < 100 {
		t.Errorf("kinds %v", counts.kinds)
	}
}

// Terms with a mistake, and terms of any kind.
func TestStepsOfAnyTerm(t *testing.T) {
	t.Parallel()
	r := rand.New(rand.NewSource(73))
	counts := &stepCounts{codes: map[int]int{}}
	refused := 0
	for i := range 100 {
		e := randomEnv(r)
		m, w := newStepMaker(r, e.e), slowStepsIn(e.e)
		for k := range 6 {
			x := m.spoiltTerm(m.busy(1+r.Intn(3), 0))
			what := "environment " + strconv.Itoa(i) + ", term " + strconv.Itoa(k)
			if impl.TermOk(x) && slowKnows(e.e, m.table, x) {
				holdAgainstSlow(t, what, w, x, r.Intn(30), counts)
			} else {
				refused++
				holdUnknown(t, what, e.e, x)
			}
		}
		if broken := e.spoiltEnv(); !slowEnvOk(broken) {
			holdUnknown(t, "environment "+strconv.Itoa(i), broken, prop())
		}
	}
	if refused < 100 || refused > 500 {
		t.Errorf("%d terms are refused", refused)
	}
}
