package tests

import (
	"slices"
	"strconv"
	"strings"
	"testing"

	"loop.example/g00005/impl"
)

// slowPair is two trees that must become the same.
type slowPair struct {
	ctx  []tree
	a, b tree
}

// slowUnifier makes trees the same with the words of the document. Each change
// makes a new state, so that one that is kept stays.
type slowUnifier struct {
	*slowMeter
	types  []tree
	class  []bool
	values []tree
	levels []impl.Level
	later  []slowPair
}

// slowHole gives the number of a level hole; -1 for any other name.
func slowHole(name string) int {
	for number := range 1000 {
		if name == "_"+strconv.Itoa(number) {
			return number
		}
	}
	return -1
}

func (u *slowUnifier) read(s impl.State) {
	u.holeType = func(hole int) tree { return u.fill(u.types[hole]) }
	for _, h := range s.Holes {
		u.types, u.class = append(u.types, treeOf(h.Type)), append(u.class, h.Class)
		var value tree
		if len(h.Value.Nodes) > 0 {
			value = treeOf(h.Value)
		}
		u.values = append(u.values, value)
	}
	u.levels = slices.Clone(s.Levels)
	for _, p := range s.Later {
		u.later = append(u.later, slowPair{treesOf(p.Ctx), treeOf(p.A), treeOf(p.B)})
	}
}

func (u *slowUnifier) state() impl.State {
	var s impl.State
	for i, typ := range u.types {
		h := impl.Hole{Type: typ.term(), Class: u.class[i]}
		if u.isSet(i) {
			h.Value = u.values[i].term()
		}
		s.Holes = append(s.Holes, h)
	}
	s.Levels = u.levels
	for _, p := range u.later {
		var ctx []impl.Term
		for _, typ := range p.ctx {
			ctx = append(ctx, typ.term())
		}
		s.Later = append(s.Later, impl.Pair{Ctx: ctx, A: p.a.term(), B: p.b.term()})
	}
	return s
}

func (u *slowUnifier) isSet(hole int) bool {
	return u.values[hole].node.K != 0
}

// fillLevel puts levels until there is none to put.
func (u *slowUnifier) fillLevel(l impl.Level) impl.Level {
	var names []string
	var levels []impl.Level
	for i, level := range u.levels {
		if len(level.Nodes) > 0 {
			names, levels = append(names, "_"+strconv.Itoa(i)), append(levels, level)
		}
	}
	for range u.levels {
		code := 0
		if l, code = impl.LevelPut(l, names, levels); code != 0 {
			panic(slowEnd{code})
		}
	}
	return l
}

func (u *slowUnifier) fill(x tree) tree {
	head, args := x.spine()
	for i := range args {
		args[i] = u.fill(args[i])
	}
	if head.node.K == impl.TermHole && u.isSet(head.node.N) {
		f := u.fill(u.values[head.node.N])
		for f.node.K == impl.TermLam && len(args) > 0 {
			f, args = u.fits(f.kids[1].put(args[0])), args[1:]
		}
		return u.fits(apply(f, args))
	}
	y := tree{node: head.node}
	for _, kid := range head.kids {
		y.kids = append(y.kids, u.fill(kid))
	}
	y.node.Levels = nil
	for _, level := range head.node.Levels {
		y.node.Levels = append(y.node.Levels, u.fillLevel(level))
	}
	return u.fits(apply(y, args))
}

// hasAny says whether a TermHole, or a level hole, stands in a tree.
func (x tree) hasAny(levels bool) bool {
	if x.node.K == impl.TermHole {
		return true
	}
	for _, level := range x.node.Levels {
		for _, node := range level.Nodes {
			if levels && slowHole(node.S) >= 0 {
				return true
			}
		}
	}
	return slices.ContainsFunc(x.kids, func(kid tree) bool { return kid.hasAny(levels) })
}

func (x tree) hasHole(hole int) bool {
	return x.node.K == impl.TermHole && x.node.N == hole || slices.ContainsFunc(x.kids, func(kid tree) bool { return kid.hasHole(hole) })
}

func isFlexible(x tree) bool {
	head, _ := x.spine()
	return head.node.K == impl.TermHole
}

func isPattern(x tree) bool {
	_, args := x.spine()
	seen := map[int]bool{}
	for _, arg := range args {
		if arg.node.K != impl.TermVar || seen[arg.node.N] {
			return false
		}
		seen[arg.node.N] = true
	}
	return isFlexible(x)
}

func (u *slowUnifier) putOff(ctx []tree, a, b tree) {
	if len(u.later) == impl.MaxHoles {
		panic(slowEnd{impl.CodeSize})
	}
	u.later = append(slices.Clip(u.later), slowPair{slices.Clone(ctx), a, b})
}

func (u *slowUnifier) unify(ctx []tree, a, b tree) {
	u.count()
	a, b = u.fill(a), u.fill(b)
	ctx = slices.Clone(ctx)
	for i := range ctx {
		ctx[i] = u.fill(ctx[i])
	}
	switch {
	case sameTree(a, b):
		return
	case !a.hasAny(true) && !b.hasAny(true):
		if !u.compareAt(ctx, a, b, u.typeOf(slices.Clone(ctx), a)) {
			panic(slowEnd{impl.CodeUnify})
		}
		return
	case isFlexible(a) || isFlexible(b):
		u.flexible(ctx, a, b)
		return
	}
	a = u.whnf(a, false)
	b = u.whnf(b, false)
	u.still(ctx, a, b)
}

// flexible is step 3.
func (u *slowUnifier) flexible(ctx []tree, a, b tree) {
	f, _ := a.spine()
	g, _ := b.spine()
	if f.node.K == impl.TermHole && g.node.K == impl.TermHole && f.node.N == g.node.N {
		u.putOff(ctx, a, b)
		return
	}
	tries := [][2]tree{{a, b}, {b, a}}
	if !isPattern(a) {
		tries = tries[1:]
	}
	open := !isPattern(a) && !isPattern(b)
	for _, try := range tries {
		if isPattern(try[0]) {
			if u.set(try[0], try[1]) {
				return
			}
			open = try[1].hasAny(false)
		}
	}
	if !open {
		panic(slowEnd{impl.CodeUnify})
	}
	u.putOff(ctx, a, b)
}

// set is false when the hole cannot be set for a variable.
func (u *slowUnifier) set(x, to tree) bool {
	head, args := x.spine()
	hole := head.node.N
	if to.hasHole(hole) {
		panic(slowEnd{impl.CodeUnify})
	}
	places := map[int]int{}
	for i, arg := range args {
		places[arg.node.N] = len(args) - 1 - i
	}
	for number := range to.numbers() {
		if _, ok := places[number]; !ok {
			return false
		}
	}
	value := to.changed(0, func(x tree, under int) tree {
		if x.node.K == impl.TermVar && x.node.N >= under {
			x.node.N = places[x.node.N-under] + under
		}
		return x
	})
	typ := u.fill(u.types[hole])
	var pis []tree
	for range args {
		if typ.node.K != impl.TermPi {
			typ = u.whnf(typ, true)
		}
		if typ.node.K != impl.TermPi {
			panic(slowEnd{impl.CodeUnify})
		}
		pis = append(pis, typ)
		typ = typ.kids[1]
	}
	for _, pi := range slices.Backward(pis) {
		value = tree{impl.Node{K: impl.TermLam, S: pi.node.S, M: pi.node.M}, []tree{pi.kids[0], value}}
	}
	// the types may have the hole in them, too
	if u.fits(value).hasHole(hole) {
		panic(slowEnd{impl.CodeUnify})
	}
	u.values = slices.Clone(u.values)
	u.values[hole] = value
	u.unify(nil, u.types[hole], u.typeOfValue(value))
	return true
}

func (u *slowUnifier) typeOfValue(value tree) tree {
	defer func() {
		if met := recover(); met != nil {
			end := met.(slowEnd)
			if end.code > 0 && end.code != impl.CodeFuel && end.code != impl.CodeSize {
				end.code = impl.CodeUnify
			}
			panic(end)
		}
	}()
	return u.typeOf(nil, value)
}

// still is what comes from step 5 on.
func (u *slowUnifier) still(ctx []tree, a, b tree) {
	for {
		if isFlexible(a) || isFlexible(b) {
			u.flexible(ctx, a, b)
			return
		}
		k, l := a.node.K, b.node.K
		switch {
		case k == impl.TermSort && l == k:
			u.unifyLevels(a.node.Levels[0], b.node.Levels[0])
			return
		case (k == impl.TermPi || k == impl.TermLam) && l == k:
			u.unify(ctx, a.kids[0], b.kids[0])
			u.unify(underOne(ctx, a.kids[0]), a.kids[1], b.kids[1])
			return
		case k == impl.TermLam:
			u.unify(underOne(ctx, a.kids[0]), a.kids[1], u.applied(b))
			return
		case l == impl.TermLam:
			u.unify(underOne(ctx, b.kids[0]), b.kids[1], u.applied(a))
			return
		}
		p, q := u.blocked(a), u.blocked(b)
		if p == "" && q == "" {
			u.ended(ctx, a, b)
			return
		}
		f, _ := a.spine()
		if p == q && f.node.S == p && alike(a, b) && u.try(ctx, a, b) {
			return
		}
		stepA, stepB := p != "", q != ""
		if stepA && stepB {
			heights := slowHeights(u.e)
			stepA, stepB = heights[p] >= heights[q], heights[q] >= heights[p]
		}
		if stepA {
			a = u.unfold(a)
		}
		if stepB {
			b = u.unfold(b)
		}
		if sameTree(a, b) {
			return
		}
	}
}

// alike says whether two trees have the heads and the numbers of arguments that
// the document asks for.
func alike(a, b tree) bool {
	f, args := a.spine()
	g, others := b.spine()
	if f.node.K != g.node.K || len(args) != len(others) || f.node.N != g.node.N || f.node.S != g.node.S {
		return false
	}
	return f.node.K == impl.TermVar || f.node.K == impl.TermConst || f.node.K == impl.TermProj
}

// ended is step 6.
func (u *slowUnifier) ended(ctx []tree, a, b tree) {
	switch {
	case alike(a, b):
		u.parts(ctx, a, b)
	case u.waits(a) || u.waits(b):
		u.putOff(ctx, a, b)
	default:
		panic(slowEnd{impl.CodeUnify})
	}
}

func (u *slowUnifier) parts(ctx []tree, a, b tree) {
	f, args := a.spine()
	g, others := b.spine()
	for i := range f.node.Levels {
		u.unifyLevels(f.node.Levels[i], g.node.Levels[i])
	}
	for i := range f.kids {
		u.unify(ctx, f.kids[i], g.kids[i])
	}
	for i := range args {
		u.unify(ctx, args[i], others[i])
	}
}

// try is false for what could not be made the same; then all is as before, but
// for the work.
func (u *slowUnifier) try(ctx []tree, a, b tree) (done bool) {
	before := *u
	defer func() {
		if met := recover(); met != nil {
			if met.(slowEnd).code != impl.CodeUnify {
				panic(met)
			}
			u.values, u.levels, u.later = before.values, before.levels, before.later
			done = false
		}
	}()
	u.parts(ctx, a, b)
	return true
}

// waits says whether a flexible tree is come to.
func (u *slowUnifier) waits(x tree) bool {
	for !isFlexible(x) {
		h, args := x.spine()
		kind := u.table[h.node.S].Kind
		switch {
		case h.node.K == impl.TermProj:
			x = h.kids[0]
		case h.node.K == impl.TermConst && kind == impl.InfoRecursor:
			d := u.decl(h.node.S)
			all, _ := piTypes(treeOf(d.Type))
			place := 1 + len(d.Ctors) + len(all)
			if slowInProp(d) || len(args) <= place {
				return false
			}
			x = args[place]
		case h.node.K == impl.TermConst && kind == impl.InfoLift && len(args) > 5:
			x = args[5]
		default:
			return false
		}
	}
	return true
}

func (u *slowUnifier) unifyLevels(a, b impl.Level) {
	a, b = u.fillLevel(a), u.fillLevel(b)
	if impl.LevelSame(a, b) || u.setLevel(a, b) || u.setLevel(b, a) {
		return
	}
	last := len(a.Nodes) - 1
	end := len(b.Nodes) - 1
	if a.Nodes[last].K == impl.LevelSucc && b.Nodes[end].K == impl.LevelSucc {
		u.unifyLevels(impl.Level{Nodes: a.Nodes[:last]}, impl.Level{Nodes: b.Nodes[:end]})
		return
	}
	u.putOff(nil, treeOf(universe(a)), treeOf(universe(b)))
}

func (u *slowUnifier) setLevel(a, b impl.Level) bool {
	hole := slowHole(a.Nodes[0].S)
	if len(a.Nodes) > 1 || hole < 0 {
		return false
	}
	for _, node := range b.Nodes {
		if node.S == a.Nodes[0].S {
			return false
		}
	}
	u.levels = slices.Clone(u.levels)
	u.levels[hole] = b
	return true
}

func (u *slowUnifier) settle() {
	for {
		before, later := u.openCount(), u.later
		u.later = nil
		for _, p := range later {
			u.unify(p.ctx, p.a, p.b)
		}
		if u.openCount() >= before {
			return
		}
	}
}

func (u *slowUnifier) openCount() int {
	count := 0
	for i := range u.values {
		if !u.isSet(i) {
			count++
		}
	}
	for _, level := range u.levels {
		if len(level.Nodes) == 0 {
			count++
		}
	}
	return count
}

// slowState gives the state that becomes of one, with the work and a code.
func (w *slowSteps) slowState(s impl.State, fuel int, exact bool, do func(u *slowUnifier)) (impl.State, int, int) {
	var after impl.State
	_, work, code := w.slowly(fuel, func(m *slowMeter) tree {
		m.exact = exact
		u := &slowUnifier{slowMeter: m}
		u.read(s)
		do(u)
		after = u.state()
		return tree{}
	})
	return after, work, code
}

// unifyAsk is a call of Unify, or of Settle when it has no terms.
type unifyAsk struct {
	s    impl.State
	ctx  []impl.Term
	a, b impl.Term
}

func (q unifyAsk) settles() bool {
	return len(q.a.Nodes) == 0
}

func (q unifyAsk) text() string {
	if q.settles() {
		return "Settle " + fewLines(stateText(q.s))
	}
	return "Unify " + short(told(q.a)) + " and " + short(told(q.b)) + " of " + fewLines(stateText(q.s))
}

func (q unifyAsk) ask(e impl.Env, fuel int) (impl.State, int, int) {
	if q.settles() {
		return impl.Settle(e, q.s, fuel)
	}
	return impl.Unify(e, q.s, q.ctx, q.a, q.b, fuel)
}

func (q unifyAsk) slowly(w *slowSteps, fuel int) (impl.State, int, int) {
	return w.slowState(q.s, fuel, false, func(u *slowUnifier) {
		if q.settles() {
			u.settle()
		} else {
			u.unify(treesOf(q.ctx), treeOf(q.a), treeOf(q.b))
		}
	})
}

// stateText has a line for each hole, each level hole, and each pair.
func stateText(s impl.State) string {
	var lines []string
	for i, h := range s.Holes {
		class := ""
		if h.Class {
			class = "class "
		}
		lines = append(lines, class+"?"+strconv.Itoa(i)+" : "+told(h.Type)+" := "+told(h.Value))
	}
	for i, level := range s.Levels {
		lines = append(lines, "_"+strconv.Itoa(i)+" := "+impl.LevelText(level))
	}
	for _, p := range s.Later {
		line := ""
		for _, typ := range p.Ctx {
			line += told(typ) + ", "
		}
		lines = append(lines, line+"|- "+told(p.A)+" = "+told(p.B))
	}
	return strings.Join(lines, "\n")
}

// fewLines is for what is told of a mistake.
func fewLines(text string) string {
	if lines := strings.Split(text, "\n"); len(lines) > 12 {
		return short(strings.Join(lines[:6], "\n")) + "\n.. and " + strconv.Itoa(len(lines)-6) + " more"
	}
	if len(text) > 2000 {
		return short(text)
	}
	return text
}

func equalStates(a, b impl.State) bool {
	return slices.EqualFunc(a.Holes, b.Holes, func(x, y impl.Hole) bool {
		return equalTerms(x.Type, y.Type) && equalTerms(x.Value, y.Value) && x.Class == y.Class
	}) && slices.EqualFunc(a.Levels, b.Levels, sameNodes) && slices.EqualFunc(a.Later, b.Later, func(x, y impl.Pair) bool {
		return equalLists(x.Ctx, y.Ctx) && equalTerms(x.A, y.A) && equalTerms(x.B, y.B)
	})
}

func copyState(s impl.State) impl.State {
	var c impl.State
	for _, h := range s.Holes {
		c.Holes = append(c.Holes, impl.Hole{Type: copyTerm(h.Type), Value: copyTerm(h.Value), Class: h.Class})
	}
	for _, level := range s.Levels {
		c.Levels = append(c.Levels, copyLevel(level))
	}
	for _, p := range s.Later {
		c.Later = append(c.Later, impl.Pair{Ctx: copyTerms(p.Ctx), A: copyTerm(p.A), B: copyTerm(p.B)})
	}
	return c
}

// stateOf is a state by its texts: a type, or a type, `:=` and a Value, is a hole;
// `_` is an open level hole, and `_ := ` with a level one that is not open; two
// terms with `=` between are a pair without a context.
func stateOf(texts ...string) impl.State {
	return stateIn(nil, texts...)
}

// stateIn is stateOf, where pairs with `|-` in front are in this context.
func stateIn(ctx []impl.Term, texts ...string) impl.State {
	var s impl.State
	for _, text := range texts {
		typ, value, set := strings.Cut(text, " := ")
		a, b, isPair := strings.Cut(strings.TrimPrefix(text, "|- "), " = ")
		switch {
		case typ == "_":
			level, _ := impl.ParseLevel(value)
			s.Levels = append(s.Levels, level)
		case isPair:
			p := impl.Pair{A: read(a), B: read(b)}
			if strings.HasPrefix(text, "|- ") {
				p.Ctx = copyTerms(ctx)
			}
			s.Later = append(s.Later, p)
		case set:
			s.Holes = append(s.Holes, impl.Hole{Type: read(typ), Value: read(value)})
		default:
			s.Holes = append(s.Holes, impl.Hole{Type: read(typ)})
		}
	}
	return s
}

// unifyCase is two terms in a state, and what becomes of that, with the work; a
// code that is not 0 leaves nothing.
type unifyCase struct {
	a, b  string
	state []string
	after []string
	work  int
	code  int
}

func texts(list ...string) []string {
	return list
}

// holdUnifyCases holds each case in a context, and that the terms are not written
// into.
func holdUnifyCases(t *testing.T, e impl.Env, ctx []impl.Term, cases []unifyCase) {
	t.Helper()
	w, before := slowStepsIn(e), copyTerms(ctx)
	for _, c := range cases {
		q := unifyAsk{stateIn(ctx, c.state...), ctx, read(c.a), read(c.b)}
		q.holdEvery(t, w, stateIn(ctx, c.after...), c.work, c.code)
		if written(q.a) != c.a || written(q.b) != c.b {
			t.Errorf("%s: a term was changed", q.text())
		}
	}
	if !equalLists(ctx, before) {
		t.Errorf("the context was changed")
	}
}

// hold fails unless a call answers so.
func (q unifyAsk) hold(t *testing.T, e impl.Env, fuel int, want impl.State, work, code int) {
	t.Helper()
	got, gotWork, gotCode := q.ask(e, fuel)
	if !equalStates(got, want) || gotWork != work || gotCode != code {
		t.Errorf("%s, fuel %d: work %d, code %d\n%s\nnot work %d, code %d\n%s", q.text(), fuel, gotWork, gotCode, fewLines(stateText(got)), work, code, fewLines(stateText(want)))
	}
}

// holdEvery holds an answer, and the slow way's, with every fuel up to more than it
// needs, with the greatest one, and with those that are out of range.
func (q unifyAsk) holdEvery(t *testing.T, w *slowSteps, want impl.State, work, code int) {
	t.Helper()
	before := copyState(q.s)
	for fuel := range work + 3 {
		state, spent, end := want, work, code
		if fuel < work {
			state, spent, end = impl.State{}, fuel, impl.CodeFuel
		}
		q.hold(t, w.e, fuel, state, spent, end)
		if slow, slowWork, slowCode := q.slowly(w, fuel); !equalStates(slow, state) || slowWork != spent || slowCode != end {
			t.Errorf("%s, fuel %d: by the slow way work %d, code %d\n%s", q.text(), fuel, slowWork, slowCode, stateText(slow))
		}
	}
	q.hold(t, w.e, impl.MaxFuel, want, work, code)
	for _, fuel := range []int{-1, impl.MaxFuel + 1, -1 << 62, 1 << 62} {
		q.hold(t, w.e, fuel, impl.State{}, 0, impl.CodeInput)
	}
	if !equalStates(before, q.s) {
		t.Errorf("%s: the state was changed", q.text())
	}
}

// holdSlow holds an answer against the slow way, where that can tell.
func (q unifyAsk) holdSlow(t *testing.T, w *slowSteps, fuel int) (impl.State, int) {
	t.Helper()
	want, work, code := q.slowly(w, fuel)
	if code != slowLost {
		q.hold(t, w.e, fuel, want, work, code)
	}
	return want, code
}

// unifyEnv has more than convEnv: what a hole's type may become by steps, and
// recursors and lifts that wait.
func unifyEnv() impl.Env {
	return behind(convEnv(),
		declared(impl.KindDef, "double", "", "[! a 0 Nat Nat]", "[^ a 0 Nat [[add #0] #0]]"),
		declared(impl.KindDef, "const", "", "[! a 0 Nat [! b 0 Nat Nat]]", "[^ a 0 Nat [^ b 0 Nat #1]]"),
		declared(impl.KindDef, "Op", "", "*1", "[! a 0 Nat [! b 0 Nat Nat]]"),
		declared(impl.KindDef, "same", "u", "[! A 1 *u [! a 0 #0 #1]]", "[^ A 1 *u [^ a 0 #0 [[id{u} #1] #0]]]"),
		declared(impl.KindAxiom, "f", "", "[! a 0 Nat [! b 0 Nat Nat]]", ""),
		declared(impl.KindAxiom, "poly", "u v", "[! A 0 *u [! B 0 *v Nat]]", ""),
		declared(impl.KindAxiom, "rel", "", "[! a 0 Nat [! b 0 Nat *0]]", ""),
		declared(impl.KindDef, "none", "", "[! a 0 Nat [! b 0 Nat Nat]]", "[^ a 0 Nat [^ b 0 Nat Nat.zero]]"),
		declared(impl.KindDef, "none_at", "u", "[! A 0 *u [! a 0 Nat Nat]]", "[^ A 0 *u [^ a 0 Nat Nat.zero]]"),
		declared(impl.KindDef, "swap", "", "[! a 0 Nat [! b 0 Nat Nat]]", "[^ a 0 Nat [^ b 0 Nat [[f #0] #1]]]"),
	)
}

// unifyContext has the variables x, y, f, p and A: 4 to 0.
func unifyContext() []impl.Term {
	return contextOf("Nat", "Nat", "[! n 0 Nat Nat]", "[[Prod{0,0} Nat] Nat]", "*1")
}
