package tests

import (
	"math/rand"
	"slices"
	"strconv"
	"testing"

	"loop.example/g00005/impl"
)

// context is one of so many types, each known for its position. They need be no
// types.
func (m *stepMaker) context(count int) []impl.Term {
	var ctx []impl.Term
	for i := range count {
		typ := m.small(func() impl.Term { return m.busy(1+m.r.Intn(3), i-2) })
		if i > 0 && m.r.Intn(3) == 0 {
			typ = pi("x", m.r.Intn(3), m.leaf(i, nil), pi("y", 0, m.leaf(i+1, nil), m.leaf(i+2, nil)))
		}
		if m.r.Intn(4) == 0 {
			typ = universe(randomLevel(m.r, 3, []string{"u", "q"}))
		}
		ctx = append(ctx, typ)
	}
	return ctx
}

// open is a term in a context of so many types that has a type more often than
// others.
func (m *stepMaker) open(depth, count int) impl.Term {
	if depth <= 0 || m.r.Intn(6) == 0 {
		return m.busy(depth, count-2)
	}
	switch m.r.Intn(8) {
	case 0:
		return lam("x", m.r.Intn(3), m.open(depth-1, count), m.open(depth-1, count+1))
	case 1, 2:
		return pi("x", m.r.Intn(3), m.typ(depth-1, count), m.typ(depth-1, count+1))
	case 3:
		return let("x", m.open(depth-1, count), m.open(depth-1, count), m.open(depth-1, count+1))
	case 4:
		if name, n, ok := m.structure(); ok {
			d := m.e.Decls[m.table[name].Decl]
			types, _ := piTypes(treeOf(d.Ctors[0].Type))
			return proj(name, n, app(m.named(d.Ctors[0].Name), m.args(len(types), depth-1, count-2)...))
		}
	}
	if len(m.names) == 0 {
		return m.busy(depth, count-2)
	}
	x := m.named(m.names[m.r.Intn(len(m.names))])
	if len(x.Nodes[0].Levels) > impl.MaxParams {
		return m.busy(depth, count-2)
	}
	types, _ := piTypes(treeOf(m.table[x.Nodes[0].S].Type))
	return app(x, m.args(m.r.Intn(len(types)+1), depth-1, count-2)...)
}

// typ is mostly a family with all its arguments.
func (m *stepMaker) typ(depth, count int) impl.Term {
	if depth <= 0 || len(m.families) == 0 || m.r.Intn(3) == 0 {
		return m.open(depth, count)
	}
	d := m.families[m.r.Intn(len(m.families))]
	types, _ := piTypes(treeOf(d.Type))
	return app(m.named(d.Name), m.args(len(types), depth-1, count-2)...)
}

// holdTypesAgainstSlow holds TypeOf and SortOf against the slow way.
func holdTypesAgainstSlow(t *testing.T, what string, w *slowSteps, ctx []impl.Term, x impl.Term, fuel int, codes map[int]int) {
	t.Helper()
	y, work, code := w.slowType(ctx, x, fuel, false)
	codes[code]++
	if code != slowLost {
		got, gotWork, gotCode := impl.TypeOf(w.e, ctx, x, fuel)
		holdSlow(t, what+": the type of "+written(x), got, gotWork, gotCode, y, work, code)
	}
	y, work, code = w.slowSort(ctx, x, fuel, false)
	if code != slowLost {
		got, gotWork, gotCode := sortTerm(w.e, ctx, x, fuel)
		holdSlow(t, what+": the sort of "+written(x), got, gotWork, gotCode, y, work, code)
	}
}

func TestTypesOfRandomTerms(t *testing.T) {
	t.Parallel()
	r := rand.New(rand.NewSource(81))
	codes := map[int]int{}
	for i := range 120 {
		e := typeEnv()
		switch i % 3 {
		case 1:
			e = randomEnv(r).e
		case 2:
			e = familyEnv(r)
		}
		m, w := newStepMaker(r, e), slowStepsIn(e)
		ctx := m.context(r.Intn(5))
		what := "environment " + strconv.Itoa(i)
		if !impl.CtxOk(e, ctx) {
			t.Fatalf("%s: a context that is not valid", what)
		}
		for k := range 30 {
			x := m.small(func() impl.Term { return m.open(1+r.Intn(4), len(ctx)) })
			holdTypesAgainstSlow(t, what+", term "+strconv.Itoa(k), w, ctx, x, r.Intn(1+r.Intn(1+r.Intn(40))), codes)
		}
	}
	for _, code := range []int{impl.CodeFuel, impl.CodeFun, impl.CodeSort, impl.CodeProj, impl.CodeHole} {
		if codes[code] < 20 {
			t.Errorf("only %d of code %d", codes[code], code)
		}
	}
	if codes[0] < 800 || codes[slowLost] > 50 {
		t.Errorf("codes %v", codes)
	}
}

// Contexts and terms with a mistake.
func TestTypesOfAnyInput(t *testing.T) {
	t.Parallel()
	r := rand.New(rand.NewSource(82))
	codes := map[int]int{}
	refused := 0
	for i := range 80 {
		e := randomEnv(r)
		m, w := newStepMaker(r, e.e), slowStepsIn(e.e)
		for k := range 6 {
			ctx := m.context(1 + r.Intn(4))
			at := r.Intn(len(ctx))
			if r.Intn(2) == 0 {
				ctx[at] = m.spoiltTerm(ctx[at])
			}
			if r.Intn(6) == 0 {
				ctx[at] = app(ctx[at], variable(at+r.Intn(2)))
			}
			x := m.small(func() impl.Term { return m.open(r.Intn(4), len(ctx)) })
			if r.Intn(2) == 0 {
				x = m.spoiltTerm(x)
			}
			what := "environment " + strconv.Itoa(i) + ", term " + strconv.Itoa(k)
			known := true
			for place, typ := range ctx {
				known = known && slowKnownFor(e.e, m.table, typ, place)
			}
			if impl.CtxOk(e.e, ctx) != known {
				t.Fatalf("%s: a valid context is %v", what, !known)
			}
			if known && slowKnownFor(e.e, m.table, x, len(ctx)) {
				holdTypesAgainstSlow(t, what, w, ctx, x, r.Intn(30), codes)
			} else {
				refused++
				holdUntyped(t, what, e.e, ctx, x)
			}
		}
		if broken := e.spoiltEnv(); !slowEnvOk(broken) {
			holdContext(t, "environment "+strconv.Itoa(i), broken, nil, false)
		}
	}
	if refused < 100 || refused > 400 {
		t.Errorf("%d are refused", refused)
	}
}

func slowKnownFor(e impl.Env, table map[string]impl.Info, x impl.Term, n int) bool {
	if !impl.TermOk(x) || !slowKnows(e, table, x) {
		return false
	}
	for number := range treeOf(x).numbers() {
		if number >= n {
			return false
		}
	}
	return true
}

// partIn is what stands somewhere in a tree, with the types of the variables
// around it.
type partIn struct {
	ctx []tree
	x   tree
}

// parts are those of a tree by their kinds.
func (x tree) parts(ctx []tree, byKind [][]partIn) {
	byKind[x.node.K] = append(byKind[x.node.K], partIn{ctx, x})
	for i, kid := range x.kids {
		inner := ctx
		if x.inside(i) > 0 {
			inner = append(slices.Clone(ctx), x.kids[0])
		}
		kid.parts(inner, byKind)
	}
}

// named has names for a context's variables, each with its type.
func (f *typer) named(ctx []impl.Term) []part {
	var parts []part
	for _, typ := range ctx {
		parts = append(parts, f.open1("c", opened(parts, treeOf(typ))))
	}
	return parts
}

// opened has the names for its numbers.
func opened(parts []part, x tree) tree {
	for _, p := range slices.Backward(parts) {
		x = x.put(p.variable())
	}
	return x
}

// holdSameType is promise 8: where the rules of the kernel give a term a type,
// TypeOf gives the same one, and SortOf the same level.
func holdSameType(t *testing.T, f *typer, ctx []impl.Term, x impl.Term) bool {
	t.Helper()
	parts := f.named(ctx)
	named := opened(parts, treeOf(x))
	want, ok := f.typeOf(named)
	if !ok {
		return false
	}
	got, _, code := impl.TypeOf(f.e, ctx, x, impl.MaxFuel)
	if code != 0 {
		t.Fatalf("%s: code %d", written(x), code)
	}
	if !impl.Known(f.e, got, len(ctx)) || !f.same(opened(parts, treeOf(got)), want) {
		t.Fatalf("%s has the type\n%s, not\n%s", written(x), written(got), want.text())
	}
	level, ok := f.levelOf(named)
	sort, _, code := impl.SortOf(f.e, ctx, x, impl.MaxFuel)
	if ok && (code != 0 || !impl.LevelSame(sort, level)) || !ok && code != impl.CodeSort {
		t.Fatalf("%s: code %d, level %s", written(x), code, impl.LevelText(sort))
	}
	return true
}

func TestTypesByTheRules(t *testing.T) {
	t.Parallel()
	r := rand.New(rand.NewSource(83))
	e := stepEnv()
	counts, lost := make([]int, 10), 0
	codes := map[int]int{}
	for _, text := range dependent() {
		if !holdSameType(t, newTyper(e), nil, read(text)) {
			t.Errorf("%s has no type", text)
		}
	}
	for i := range 300 {
		func() {
			defer func() {
				if met := recover(); met != nil {
					_ = met.(tooLong)
					lost++
				}
			}()
			m := &typedMaker{typer: newTyper(e), r: r}
			whole := m.term(m.whole(1), 1+r.Intn(3))
			byKind := make([][]partIn, 10)
			whole.parts(nil, byKind)
			for kind, parts := range byKind {
				if len(parts) == 0 {
					continue
				}
				part := parts[r.Intn(len(parts))]
				x := part.x.term()
				var ctx []impl.Term
				for _, typ := range part.ctx {
					ctx = append(ctx, typ.term())
				}
				what := "term " + strconv.Itoa(i) + ", kind " + strconv.Itoa(kind)
				if len(x.Nodes) < 300 {
					holdTypesAgainstSlow(t, what, m.slowSteps, ctx, x, r.Intn(100), codes)
				}
				if holdSameType(t, newTyper(e), ctx, x) {
					counts[kind]++
				}
			}
		}()
	}
	for kind := impl.TermVar; kind < impl.TermHole; kind++ {
		if counts[kind] < 20 && kind != impl.TermSort {
			t.Errorf("only %d of kind %d", counts[kind], kind)
		}
	}
	if lost > 60 {
		t.Errorf("%d were too long", lost)
	}
}

// Terms with TermSorts, and some in a context.
func TestTypesOfTypesByTheRules(t *testing.T) {
	e := typeEnv()
	for _, text := range []string{
		"*0", "*u", "*max(u,v)+1", "#0", "#1", "#2", "#3", "#4", "#5",
		"[! x 0 #5 [#5 #0]]", "[! A 0 *u #0]", "[! A 0 *u [! a 0 #0 #1]]", "[^ A 0 *u [! a 0 #0 #1]]", "[^ A 0 *1 [^ a 0 #0 #0]]",
		"[= A *1 Nat [^ a 0 #0 #0]]", "[= a #5 #3 [[Eq.refl{q+1} #6] #0]]", "[[id{q+1} #5] #3]", "[[id{2} *1] Nat]",
		"[. Prod 0 #1]", "[. Prod 1 #1]", "[. Sigma 0 #0]", "[fun two]", "[slow two]", "[[more two] some]", "[[[nary two] some] two]",
		"[! x 0 set statement]", "[. Prod 1 pair]", "[. Prod 0 [[id{1} Pair] pair]]", "[. Two 1 [any{1} Two]]", "[^ p 0 Pair [^ q 0 Two [. Prod 0 #1]]]",
		"[^ x 0 Two [[[Eq{0} [[[Eq{1} Nat] [. Two 0 #0]] two]] [. Two 1 #0]] [. Two 1 #0]]]",
	} {
		if !holdSameType(t, newTyper(e), plainContext(), read(text)) {
			t.Errorf("%s has no type", text)
		}
	}
}
