package tests

import (
	"slices"
	"testing"

	"loop.example/g00005/impl"
)

const addValue = "[^ a 0 Nat [^ b 0 Nat [[[[Nat.rec{1} [^ t 0 Nat Nat]] #1] [^ n 0 Nat [^ ih 0 Nat [Nat.succ #0]]]] #0]]]"

// stepEnv has families of every kind, and definitions over them.
func stepEnv() impl.Env {
	return envOf(
		natFamily(),
		declared(impl.KindAxiom, "some", "", "Nat", ""),
		declared(impl.KindAxiom, "any", "u", "[! A 1 *u #0]", ""),
		declared(impl.KindDef, "two", "", "Nat", "[Nat.succ [Nat.succ Nat.zero]]"),
		declared(impl.KindDef, "add", "", "[! a 0 Nat [! b 0 Nat Nat]]", addValue),
		declared(impl.KindDef, "four", "", "Nat", "[[add two] two]"),
		eqFamily(),
		declared(impl.KindTheorem, "easy", "", "[[[Eq{1} Nat] four] four]", "[[Eq.refl{1} Nat] four]"),
		quotients(),
		prodFamily(),
		declared(impl.KindDef, "id", "u", "[! A 1 *u [! a 0 #0 #1]]", "[^ A 1 *u [^ a 0 #0 #0]]"),
		declared(impl.KindDef, "sorts", "a b", "[! x 0 *a *max(a,b)+1]", "[^ x 0 *a [! y 2 #0 *max(a,b)]]"),
		vecFamily(),
		listFamily(),
		accFamily(),
		family("False", "", 0, "*0"),
		family("True", "", 0, "*0", "True.intro", "True"),
		family("Empty", "", 0, "*1"),
		family("Unit", "", 0, "*1", "Unit.star", "Unit"),
		family("Box", "u", 1, "[! A 0 *u+1 *u+1]", "Box.mk", "[! A 0 *u+1 [! a 0 #0 [Box{u} #1]]]"),
		family("Sigma", "u v", 2, "[! A 0 *u+1 [! B 0 [! a 0 #0 *v+1] *max(u,v)+1]]",
			"Sigma.mk", "[! A 0 *u+1 [! B 0 [! a 0 #0 *v+1] [! a 0 #1 [! b 0 [#1 #0] [[Sigma{u,v} #3] #2]]]]]"),
		family("Bush", "", 0, "*1", "Bush.leaf", "[! n 0 Nat Bush]",
			"Bush.node", "[! l 0 Bush [! n 0 Nat [! r 0 Bush Bush]]]"),
		family("Tree", "u", 1, "[! A 0 *u+1 [! n 0 Nat *u+1]]",
			"Tree.leaf", "[! A 0 *u+1 [[Tree{u} #0] Nat.zero]]",
			"Tree.node", "[! A 0 *u+1 [! a 0 #0 [! m 0 Nat"+
				" [! f 1 [! x 2 #2 [[Tree{u} #3] #1]] [! g 2 [! y 1 #3 [! k 0 [[[Eq{u+1} #4] #3] #0] [[Tree{u} #5] [Nat.succ #3]]]]"+
				" [[Tree{u} #4] [Nat.succ [Nat.succ #2]]]]]]]]"),
	)
}

// slowSteps does steps with the words of the document, on trees.
type slowSteps struct {
	e     impl.Env
	table map[string]impl.Info
}

func slowStepsIn(e impl.Env) *slowSteps {
	return &slowSteps{e, slowTable(e)}
}

func (w *slowSteps) decl(name string) impl.Decl {
	return w.e.Decls[w.table[name].Decl]
}

// leveled is a closed term with levels for the Params of its declaration.
func leveled(t impl.Term, d impl.Decl, levels []impl.Level) tree {
	put, code := impl.PutParams(t, d.Params, levels)
	if code != 0 {
		panic("levels that are too great for the slow way")
	}
	return treeOf(put)
}

// next gives the tree behind the next step and its kind, 0 for no step.
func (w *slowSteps) next(x tree) (tree, int) {
	h, args := x.spine()
	switch h.node.K {
	case impl.TermLam:
		if len(args) > 0 {
			return apply(h.kids[1].put(args[0]), args[1:]), impl.StepBeta
		}
	case impl.TermLet:
		return apply(h.kids[2].put(h.kids[1]), args), impl.StepLet
	case impl.TermProj:
		return w.nextOfProj(h, args)
	case impl.TermConst:
		switch w.table[h.node.S].Kind {
		case impl.InfoDef:
			d := w.decl(h.node.S)
			return apply(leveled(d.Value, d, h.node.Levels), args), impl.StepDef
		case impl.InfoRecursor:
			return w.nextOfRecursor(h, args)
		case impl.InfoLift:
			return w.nextOfLift(h, args)
		}
	}
	return x, 0
}

// made is for a constructor of a family with all its arguments.
func (w *slowSteps) made(family string, x tree) (int, []tree, bool) {
	c, args := x.spine()
	info := w.table[c.node.S]
	if c.node.K != impl.TermConst || info.Kind != impl.InfoCtor || w.decl(c.node.S).Name != family {
		return 0, nil, false
	}
	types, _ := piTypes(treeOf(info.Type))
	return info.Ctor, args, len(args) == len(types)
}

func (w *slowSteps) nextOfProj(h tree, args []tree) (tree, int) {
	if _, built, ok := w.made(h.node.S, h.kids[0]); ok {
		return apply(built[w.decl(h.node.S).Fixed+h.node.N], args), impl.StepProj
	}
	t, kind := w.next(h.kids[0])
	return apply(tree{h.node, []tree{t}}, args), kind
}

func (w *slowSteps) nextOfLift(h tree, args []tree) (tree, int) {
	if len(args) < 6 {
		return apply(h, args), 0
	}
	mk, inner := args[5].spine()
	if mk.node.K == impl.TermConst && mk.node.S == "Quot.mk" && len(inner) == 3 {
		return apply(args[3], inner[2:], args[6:]), impl.StepQuot
	}
	q, kind := w.next(args[5])
	return apply(h, args[:5], []tree{q}, args[6:]), kind
}

func (w *slowSteps) nextOfRecursor(h tree, args []tree) (tree, int) {
	d := w.decl(h.node.S)
	all, _ := piTypes(treeOf(d.Type))
	place := d.Fixed + 1 + len(d.Ctors) + len(all) - d.Fixed
	if slowInProp(d) || len(args) <= place {
		return apply(h, args), 0
	}
	m, own, more := args[place], args[:d.Fixed+1+len(d.Ctors)], args[place+1:]
	if ctor, built, ok := w.made(d.Name, m); ok {
		return apply(own[d.Fixed+1+ctor], built[d.Fixed:], w.hypotheses(d, ctor, h, own, built), more), impl.StepCase
	}
	if n, kind := w.next(m); kind != 0 {
		return apply(h, args[:place], []tree{n}, more), kind
	}
	if !impl.IsStructure(d) {
		return apply(h, args), 0
	}
	var fields []tree
	for i := range slowFields(d, 0) {
		fields = append(fields, tree{impl.Node{K: impl.TermProj, S: d.Name, N: i}, []tree{m}})
	}
	return apply(own[d.Fixed+1], fields, more), impl.StepEta
}

// hypotheses are for the fields of the family of a constructor that has these
// arguments.
func (w *slowSteps) hypotheses(d impl.Decl, ctor int, h tree, own, built []tree) []tree {
	fields := slowFields(d, ctor)
	if !slices.ContainsFunc(fields, func(f impl.Field) bool { return f.Self }) {
		return nil
	}
	levels := h.node.Levels[len(h.node.Levels)-len(d.Params):]
	at := leveled(d.Ctors[ctor].Type, d, levels)
	var list []tree
	for i, a := range built {
		if i >= d.Fixed && fields[i-d.Fixed].Self {
			list = append(list, slowHypothesis(d, at.kids[0], h, own, a))
		}
		at = at.kids[1].put(a)
	}
	return list
}

// slowHypothesis is for a field w of this type.
func slowHypothesis(d impl.Decl, typ, h tree, own []tree, w tree) tree {
	var binders []tree
	for typ.node.K == impl.TermPi {
		binders = append(binders, typ)
		typ = typ.kids[1]
	}
	var args, numbers []tree
	for _, arg := range own {
		args = append(args, arg.lifted(0, len(binders)))
	}
	for i := range binders {
		numbers = append(numbers, treeOf(variable(len(binders)-1-i)))
	}
	_, inner := typ.spine()
	ih := apply(h, args, inner[d.Fixed:], []tree{apply(w.lifted(0, len(binders)), numbers)})
	for _, b := range slices.Backward(binders) {
		ih = tree{impl.Node{K: impl.TermLam, S: b.node.S, M: b.node.M}, []tree{b.kids[0], ih}}
	}
	return ih
}

func (x tree) size() int {
	size := 1
	for _, kid := range x.kids {
		size += kid.size()
	}
	return size
}

// slowMeter counts the steps of the slow way. A code ends it. It is exact when it
// goes up to the limits of terms, however long that takes; most is then the size
// of the greatest tree that was made.
type slowMeter struct {
	*slowSteps
	fuel  int
	work  int
	exact bool
	most  int
	// holeType is there where holes have types.
	holeType func(hole int) tree
}

// slowEnd is what the slow way panics with when a code ends it.
type slowEnd struct {
	code int
}

// slowRoom is the size that the slow way leaves off at: far below the limit,
// for it takes too long then.
const slowRoom = 2000

// slowLost is the code of what the slow way can't tell.
const slowLost = -1

func (w *slowMeter) whnf(x tree, deep bool) tree {
	for {
		y, kind := w.next(x)
		if kind == 0 || kind == impl.StepDef && !deep {
			return x
		}
		if w.work == w.fuel {
			panic(slowEnd{impl.CodeFuel})
		}
		w.work++
		x = w.fits(y)
	}
}

// fits is for trees that were made just now.
func (w *slowMeter) fits(x tree) tree {
	size := x.size()
	w.most = max(w.most, size)
	switch {
	case w.exact && (size > impl.MaxNodes || x.greatest() > impl.MaxNodes):
		panic(slowEnd{impl.CodeSize})
	case !w.exact && size > slowRoom:
		panic(slowEnd{slowLost})
	}
	return x
}

// greatest is the greatest number of a variable, as it stands there.
func (x tree) greatest() int {
	number := 0
	if x.node.K == impl.TermVar {
		number = x.node.N
	}
	for _, kid := range x.kids {
		number = max(number, kid.greatest())
	}
	return number
}

func (w *slowMeter) normal(x tree) tree {
	h, args := w.whnf(x, true).spine()
	if h.node.K == impl.TermLam || h.node.K == impl.TermPi || h.node.K == impl.TermProj {
		kids := slices.Clone(h.kids)
		for i := range kids {
			kids[i] = w.normal(kids[i])
		}
		h.kids = kids
	}
	var done []tree
	for _, arg := range args {
		done = append(done, w.normal(arg))
	}
	return apply(h, done)
}

// slowly gives what is made of a tree, with the work and the code.
func (w *slowSteps) slowly(fuel int, do func(m *slowMeter) tree) (x tree, work, code int) {
	m := &slowMeter{slowSteps: w, fuel: fuel}
	defer func() {
		if met := recover(); met != nil {
			x, work, code = tree{}, m.work, met.(slowEnd).code
		}
	}()
	x = do(m)
	return x, m.work, 0
}

// holdStep fails unless Step gives a text and a kind, and leaves what it is
// given.
func holdStep(t *testing.T, e impl.Env, x impl.Term, kind int, want string) {
	t.Helper()
	before := copyTerm(x)
	got, gotKind, code := impl.Step(e, x)
	if code != 0 || gotKind != kind || told(got) != want {
		t.Errorf("%s: kind %d, code %d\n%s, not kind %d\n%s", short(written(x)), gotKind, code, told(got), kind, want)
	}
	if !equalTerms(x, before) {
		t.Errorf("%s was changed", short(written(before)))
	}
	name := ""
	if kind == impl.StepDef {
		name = slowStepsIn(e).blocked(treeOf(x))
	}
	if blocked := impl.Blocked(e, x); blocked != name {
		t.Errorf("%s: blocked by %q, not %q", short(written(x)), blocked, name)
	}
}

// blocked finds the definition that a StepDef unfolds: it is the head, or that
// of what the head waits for.
func (w *slowSteps) blocked(x tree) string {
	if _, kind := w.next(x); kind != impl.StepDef {
		return ""
	}
	for {
		h, args := x.spine()
		switch {
		case h.node.K == impl.TermProj:
			x = h.kids[0]
		case w.table[h.node.S].Kind == impl.InfoRecursor:
			d := w.decl(h.node.S)
			all, _ := piTypes(treeOf(d.Type))
			x = args[1+len(d.Ctors)+len(all)]
		case w.table[h.node.S].Kind == impl.InfoLift:
			x = args[5]
		default:
			return h.node.S
		}
	}
}

func holdStays(t *testing.T, e impl.Env, text string) {
	t.Helper()
	holdStep(t, e, read(text), 0, text)
}

func holdWhnf(t *testing.T, e impl.Env, x impl.Term, deep bool, fuel int, want string, work, code int) {
	t.Helper()
	got, gotWork, gotCode := impl.Whnf(e, x, deep, fuel)
	holdWork(t, "Whnf of "+short(written(x)), got, gotWork, gotCode, want, work, code)
}

func holdNormal(t *testing.T, e impl.Env, x impl.Term, fuel int, want string, work, code int) {
	t.Helper()
	got, gotWork, gotCode := impl.Normal(e, x, fuel)
	holdWork(t, "Normal of "+short(written(x)), got, gotWork, gotCode, want, work, code)
}

// told is the text of an answer, which may be nothing.
func told(t impl.Term) string {
	if len(t.Nodes) == 0 {
		return ""
	}
	return written(t)
}

func holdWork(t *testing.T, what string, got impl.Term, gotWork, gotCode int, want string, work, code int) {
	t.Helper()
	if gotCode != code || gotWork != work || told(got) != want {
		t.Errorf("%s: work %d, code %d\n%s, not work %d, code %d\n%s", what, gotWork, gotCode, short(told(got)), work, code, short(want))
	}
}
