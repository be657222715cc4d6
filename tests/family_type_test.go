package tests

import (
	"math/rand"
	"slices"
	"testing"

	"loop.example/g00005/impl"
)

// familyMaker makes families whose constructors have types, over a few
// constants. It keeps the variables that may be used where it is.
type familyMaker struct {
	opener
	r     *rand.Rand
	d     impl.Decl
	scope []part
	// fixed and indices are the telescope of the family's type.
	fixed   []part
	indices []part
}

// baseConstants are what families of the maker are made of.
func baseConstants() map[string]impl.Decl {
	list := []impl.Decl{
		declared(impl.KindAxiom, "Nat", "", "*1", ""),
		declared(impl.KindAxiom, "Nat.zero", "", "Nat", ""),
		declared(impl.KindAxiom, "Nat.succ", "", "[! n 0 Nat Nat]", ""),
		declared(impl.KindAxiom, "Claim", "", "*0", ""),
		declared(impl.KindAxiom, "Row", "w", "[! A 0 *w [! n 0 Nat *w]]", ""),
		declared(impl.KindAxiom, "G", "", "[! n 0 Nat *0]", ""),
	}
	consts := map[string]impl.Decl{}
	for _, d := range list {
		consts[d.Name] = d
	}
	return consts
}

func (m *familyMaker) one(texts ...string) tree {
	return treeOf(read(texts[m.r.Intn(len(texts))]))
}

// push puts a binder behind the scope.
func (m *familyMaker) push(s string, typ tree) part {
	p := m.part(s, m.r.Intn(3), typ)
	m.scope = append(m.scope, p)
	return p
}

// ofType are the variables of a type, and constants of it.
func (m *familyMaker) ofType(typ tree) []tree {
	var list []tree
	for _, p := range m.scope {
		if sameTree(p.typ, typ) {
			list = append(list, p.variable())
		}
	}
	switch typ.text() {
	case "Nat":
		list = append(list, treeOf(constant("Nat.zero")), treeOf(read("[Nat.succ Nat.zero]")))
		for _, v := range slices.Clone(list) {
			list = append(list, apply(treeOf(constant("Nat.succ")), []tree{v}))
		}
	case "*1":
		list = append(list, treeOf(constant("Nat")))
	case "*0":
		list = append(list, treeOf(constant("Claim")))
	case "[! x 0 Nat Nat]":
		list = append(list, treeOf(constant("Nat.succ")), treeOf(read("[^ y 1 Nat #0]")))
	}
	return list
}

// some gives a term of a type, a new variable of it where there is none.
func (m *familyMaker) some(typ tree) tree {
	list := m.ofType(typ)
	if len(list) == 0 || m.r.Intn(5) == 0 {
		return m.push([]string{"a", "b", "ih"}[m.r.Intn(3)], typ).variable()
	}
	return list[m.r.Intn(len(list))]
}

// typeHere is a type over the scope in which the family does not stand.
func (m *familyMaker) typeHere() tree {
	types := []tree{m.one("Nat", "Claim"), treeOf(read("[! x 0 Nat Nat]")), m.one("*0", "*1", "[! x 0 Nat *0]")}
	for _, p := range m.scope {
		v := p.variable()
		number := treeOf(read("[Nat.succ Nat.zero]"))
		if p.typ.node.K == impl.TermSort {
			level := p.typ.node.Levels[0]
			types = append(types, v, apply(treeOf(constant("Row", level)), []tree{v, number}))
		}
		switch p.typ.text() {
		case "Nat":
			types = append(types, apply(treeOf(constant("G")), []tree{v}))
		case "[! x 0 Nat *0]":
			types = append(types, apply(v, []tree{number}))
		}
	}
	typ := types[m.r.Intn(len(types))]
	if m.r.Intn(4) == 0 {
		typ = piAround([]part{m.part("z", m.r.Intn(3), types[m.r.Intn(len(types))])}, typ)
	}
	return typ
}

// own is F's own with terms for the indices; new variables may come behind the
// scope for it.
func (m *familyMaker) own() tree {
	var args []tree
	for i, index := range m.indices {
		typ := index.typ
		for k, arg := range args[:i] {
			typ = typ.with(m.indices[k].name, arg)
		}
		args = append(args, m.some(typ))
	}
	return apply(selfOf(m.d), variables(m.fixed), args)
}

// selfField is F's own under a few functions.
func (m *familyMaker) selfField() tree {
	before := len(m.scope)
	for range m.r.Intn(3) {
		m.push("y", m.typeHere())
	}
	own := m.own()
	typ := piAround(m.scope[before:], own)
	m.scope = m.scope[:before:before]
	return typ
}

func (m *familyMaker) ctor() tree {
	m.scope = nil
	for _, p := range m.fixed {
		p.s, p.m = "P", m.r.Intn(3)
		m.scope = append(m.scope, p)
	}
	for range m.r.Intn(4) {
		typ := m.typeHere()
		if m.r.Intn(2) == 0 {
			typ = m.selfField()
		}
		m.push([]string{"n", "t", "C", "w"}[m.r.Intn(4)], typ)
	}
	own := m.own()
	return piAround(m.scope, own)
}

// randomFamily is formed, and has a type over the constants of the base.
func randomFamily(r *rand.Rand) impl.Decl {
	params := [][]string{nil, {"u"}, {"v"}, {"u", "v"}, {"v1", "v"}}[r.Intn(5)]
	m := &familyMaker{r: r, d: impl.Decl{Kind: impl.KindFamily, Name: "F", Params: params, Fixed: r.Intn(4)}}
	sorts := []string{"*0", "*0", "*1", "*imax(3,0)"}
	for _, name := range params {
		sorts = append(sorts, "*"+name+"+1", "*max(1,"+name+")", "*imax("+name+",0)")
	}
	for range m.d.Fixed + r.Intn(3) {
		typ := m.typeHere()
		if len(params) > 0 && r.Intn(2) == 0 {
			typ = treeOf(universe(param(params[r.Intn(len(params))])))
		}
		m.push([]string{"A", "n", "t"}[r.Intn(3)], typ)
	}
	m.fixed, m.indices = m.scope[:m.d.Fixed:m.d.Fixed], m.scope[m.d.Fixed:]
	m.d.Type = piAround(m.scope, m.one(sorts...)).term()
	for i := range r.Intn(4) {
		name := []string{"F.a", "b", "F.c.d"}[i]
		m.d.Ctors = append(m.d.Ctors, impl.Ctor{Name: name, Type: m.ctor().term()})
	}
	return m.d
}

func sameTree(a, b tree) bool {
	binds := a.node.K == impl.TermLam || a.node.K == impl.TermPi || a.node.K == impl.TermLet
	return a.node.K == b.node.K && a.node.N == b.node.N && (binds || a.node.S == b.node.S) &&
		slices.EqualFunc(a.node.Levels, b.node.Levels, impl.LevelSame) && slices.EqualFunc(a.kids, b.kids, sameTree)
}

// typeFinder finds types by the rules of the kernel, for terms in which nothing
// but functions does steps.
type typeFinder struct {
	opener
	consts map[string]impl.Decl
	types  map[string]tree
}

// beta does all steps of functions.
func (x tree) beta() tree {
	y := tree{node: x.node}
	for _, kid := range x.kids {
		y.kids = append(y.kids, kid.beta())
	}
	if y.node.K == impl.TermApp && y.kids[0].node.K == impl.TermLam {
		return y.kids[0].kids[1].put(y.kids[1]).beta()
	}
	return y
}

// typeOf is false for a term that has no type.
func (f *typeFinder) typeOf(x tree) (tree, bool) {
	switch x.node.K {
	case impl.TermVar:
		typ, ok := f.types[x.node.S]
		return typ, ok
	case impl.TermSort:
		return treeOf(universe(succ(x.node.Levels[0], 1))), true
	case impl.TermConst:
		d, ok := f.consts[x.node.S]
		if !ok || len(d.Params) != len(x.node.Levels) {
			return tree{}, false
		}
		typ, code := impl.PutParams(d.Type, d.Params, x.node.Levels)
		return treeOf(typ), code == 0
	case impl.TermApp:
		return f.typeOfApp(x)
	case impl.TermLam, impl.TermPi:
		return f.typeOfBinder(x)
	}
	return tree{}, false
}

func (f *typeFinder) typeOfApp(x tree) (tree, bool) {
	fun, ok := f.typeOf(x.kids[0])
	arg, good := f.typeOf(x.kids[1])
	if !ok || !good || fun.node.K != impl.TermPi || !sameTree(fun.kids[0].beta(), arg.beta()) {
		return tree{}, false
	}
	return fun.kids[1].put(x.kids[1]).beta(), true
}

func (f *typeFinder) typeOfBinder(x tree) (tree, bool) {
	level, ok := f.levelOf(x.kids[0])
	if !ok {
		return tree{}, false
	}
	p := f.part("x", 0, x.kids[0])
	f.types[p.name] = x.kids[0].beta()
	body := x.kids[1].put(p.variable())
	if x.node.K == impl.TermLam {
		typ, ok := f.typeOf(body)
		return piAround([]part{p}, typ), ok
	}
	inner, ok := f.levelOf(body)
	return treeOf(universe(pair(impl.LevelImax, level, inner))), ok
}

// levelOf is false for what is no type.
func (f *typeFinder) levelOf(x tree) (impl.Level, bool) {
	typ, ok := f.typeOf(x)
	if !ok || typ.node.K != impl.TermSort {
		return impl.Level{}, false
	}
	return typ.node.Levels[0], true
}

// isType says whether a closed term is a type over the base and these.
func isType(x impl.Term, more ...impl.Decl) bool {
	f := &typeFinder{consts: baseConstants(), types: map[string]tree{}}
	for _, d := range more {
		f.consts[d.Name] = d
	}
	_, ok := f.levelOf(treeOf(x))
	return ok
}

// constantsOf are a family's constant and its constructors.
func constantsOf(d impl.Decl) []impl.Decl {
	list := []impl.Decl{{Name: d.Name, Params: d.Params, Type: d.Type}}
	for _, c := range d.Ctors {
		list = append(list, impl.Decl{Name: c.Name, Params: d.Params, Type: c.Type})
	}
	return list
}

// holdPromise is promise 5 for one family that has types.
func holdPromise(t *testing.T, d impl.Decl) {
	t.Helper()
	consts := constantsOf(d)
	if !isType(d.Type) {
		t.Fatalf("%s is no type", written(d.Type))
	}
	for _, c := range d.Ctors {
		if !isType(c.Type, consts[0]) {
			t.Fatalf("%s : %s is no type", written(d.Type), written(c.Type))
		}
	}
	typ, code := impl.RecursorType(d)
	if code != 0 || !isType(typ, consts...) {
		t.Errorf("the recursor of %s has code %d and the type\n%s", d.Name, code, written(typ))
	}
	for _, name := range impl.LevelsOf(typ) {
		if !slices.Contains(impl.RecursorParams(d), name) {
			t.Errorf("the recursor of %s has a parameter %s", d.Name, name)
		}
	}
}

func TestRecursorTypesAreTypes(t *testing.T) {
	t.Parallel()
	for _, d := range formedFamilies() {
		holdPromise(t, d)
	}
	r := rand.New(rand.NewSource(52))
	for range 1500 {
		d := randomFamily(r)
		holdForm(t, written(d.Type), d, 0, 0)
		holdPromise(t, d)
	}
}

// What is said of recursors' types would be worth nothing if the test took
// anything for a type.
func TestTypesOfTheTest(t *testing.T) {
	nat := constantsOf(natFamily())
	for text, want := range map[string]bool{
		"[! C 0 [! t 0 Nat *v] [! zero 0 [#0 Nat.zero] [! succ 0 [! n 0 Nat [! ih 0 [#2 #0] [#3 [Nat.succ #1]]]] [! t 0 Nat [#3 #0]]]]]": true,
		"[! C 0 [! t 0 Nat *v] [! zero 0 [#0 Nat.zero] [! succ 0 [! n 0 Nat [! ih 0 [#1 #0] [#3 [Nat.succ #1]]]] [! t 0 Nat [#3 #0]]]]]": false,
		"[! C 0 [! t 0 Nat *v] [! zero 0 [#0 Nat.zero] [! succ 0 [! n 0 Nat [! ih 0 [#2 #0] [#3 [Nat.succ #0]]]] [! t 0 Nat [#3 #0]]]]]": false,
		"[! C 0 [! t 0 Nat *v] [! zero 0 [#0 Nat] [! t 0 Nat [#2 #0]]]]":                                                                 false,
		"[! C 0 [! t 0 Nat *v] [! t 0 Nat [#1 #1]]]": false,
		"[! C 0 [! t 0 Nat *v] [! t 0 Nat #0]]":      false,
		"[! C 0 [! t 0 Nat *v] [! t 0 Nat [#0 #1]]]": false,
		"[! C 0 [! t 0 Nat *v] Nope]":                false,
		"[! C 0 [! t 0 Nat{0} *v] Nat]":              false,
		"Nat.zero":                                   false,
	} {
		if isType(read(text), nat...) != want {
			t.Errorf("%s: a type is %v", text, !want)
		}
	}
}
