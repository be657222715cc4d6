package tests

import (
	"math/rand"
	"slices"
	"strconv"
	"testing"

	"loop.example/g00005/impl"
)

// typer finds types by the rules of the kernel, on trees with named variables;
// two are the same when their normal forms are, by the slow way.
type typer struct {
	opener
	*slowSteps
	types map[string]tree
}

// tooLong is what the typer panics with when the slow way does not end soon.
type tooLong struct{}

func (f *typer) done(do func(m *slowMeter) tree) tree {
	x, _, code := f.slowly(2000, do)
	if code != 0 {
		panic(tooLong{})
	}
	return x
}

func (f *typer) whnf(x tree) tree {
	return f.done(func(m *slowMeter) tree { return m.whnf(x, true) })
}

// plain is the normal form, in which a structure's constructor of all
// projections of one term is that term.
func (f *typer) plain(x tree) tree {
	return f.contract(f.done(func(m *slowMeter) tree { return m.normal(x) }))
}

func (f *typer) contract(x tree) tree {
	y := tree{node: x.node}
	for _, kid := range x.kids {
		y.kids = append(y.kids, f.contract(kid))
	}
	head, args := y.spine()
	if head.node.K != impl.TermConst || f.table[head.node.S].Kind != impl.InfoCtor {
		return y
	}
	d := f.decl(head.node.S)
	_, _, ok := f.made(d.Name, y)
	if !ok || !impl.IsStructure(d) || len(args) == d.Fixed {
		return y
	}
	for i, field := range args[d.Fixed:] {
		if field.node.K != impl.TermProj || field.node.S != d.Name || field.node.N != i || !sameTree(field.kids[0], args[d.Fixed].kids[0]) {
			return y
		}
	}
	return args[d.Fixed].kids[0]
}

func (f *typer) same(a, b tree) bool {
	return sameTree(a, b) || sameTree(f.plain(a), f.plain(b))
}

// typeOf is false for a term that has no type.
func (f *typer) typeOf(x tree) (tree, bool) {
	switch x.node.K {
	case impl.TermVar:
		typ, ok := f.types[x.node.S]
		return typ, ok
	case impl.TermSort:
		return treeOf(universe(succ(x.node.Levels[0], 1))), true
	case impl.TermConst:
		info, ok := f.table[x.node.S]
		typ, code := impl.PutParams(info.Type, info.Params, x.node.Levels)
		if !ok || code != 0 {
			return tree{}, false
		}
		return treeOf(typ), true
	case impl.TermApp:
		fun, ok := f.typeOf(x.kids[0])
		arg, good := f.typeOf(x.kids[1])
		if !ok || !good {
			return tree{}, false
		}
		if fun = f.whnf(fun); fun.node.K != impl.TermPi || !f.same(fun.kids[0], arg) {
			return tree{}, false
		}
		return fun.kids[1].put(x.kids[1]), true
	case impl.TermLam, impl.TermPi:
		return f.typeOfBinder(x)
	case impl.TermLet:
		typ, ok := f.typeOf(x.kids[1])
		if _, good := f.levelOf(x.kids[0]); !ok || !good || !f.same(typ, x.kids[0]) {
			return tree{}, false
		}
		return f.typeOf(x.kids[2].put(x.kids[1]))
	case impl.TermProj:
		return f.typeOfProj(x)
	}
	return tree{}, false
}

func (f *typer) typeOfBinder(x tree) (tree, bool) {
	level, ok := f.levelOf(x.kids[0])
	if !ok {
		return tree{}, false
	}
	p := f.open1("x", x.kids[0])
	body := x.kids[1].put(p.variable())
	if x.node.K == impl.TermLam {
		typ, ok := f.typeOf(body)
		return piAround([]part{p}, typ), ok
	}
	inner, ok := f.levelOf(body)
	return treeOf(universe(pair(impl.LevelImax, level, inner))), ok
}

// open1 is a new variable of a type.
func (f *typer) open1(s string, typ tree) part {
	p := f.part(s, 0, typ)
	f.types[p.name] = typ
	return p
}

func (f *typer) typeOfProj(x tree) (tree, bool) {
	typ, ok := f.typeOf(x.kids[0])
	if !ok {
		return tree{}, false
	}
	head, args := f.whnf(typ).spine()
	d := f.decl(x.node.S)
	if head.node.S != d.Name || len(args) != d.Fixed {
		return tree{}, false
	}
	at := leveled(d.Ctors[0].Type, d, head.node.Levels)
	for _, arg := range args {
		at = at.kids[1].put(arg)
	}
	for i := range x.node.N {
		at = at.kids[1].put(tree{impl.Node{K: impl.TermProj, S: d.Name, N: i}, x.kids})
	}
	return at.kids[0], true
}

// levelOf is false for what is no type. Numbers stay short.
func (f *typer) levelOf(x tree) (impl.Level, bool) {
	typ, ok := f.typeOf(x)
	if !ok {
		return impl.Level{}, false
	}
	if typ = f.whnf(typ); typ.node.K != impl.TermSort {
		return impl.Level{}, false
	}
	if n, ok := impl.LevelValue(typ.node.Levels[0], nil, nil); ok {
		return succ(zero(), n), true
	}
	return typ.node.Levels[0], true
}

// typedMaker makes terms of a type.
type typedMaker struct {
	*typer
	r     *rand.Rand
	scope []part
}

func (m *typedMaker) mustLevel(typ tree) impl.Level {
	level, ok := m.levelOf(typ)
	if !ok {
		panic(typ.text() + " is no type")
	}
	return level
}

// instances are types over Nat, their indices left out.
func (m *typedMaker) instance() (string, tree) {
	text := []string{
		"Nat", "Nat", "[List{0} Nat]", "[[Prod{0,0} Nat] Nat]", "[Box{0} Nat]", "Unit", "Bush", "[Vec{1} Nat]", "[Tree{0} Nat]",
		"[[Sigma{0,0} Nat] [^ a 0 Nat Nat]]", "[[Prod{0,0} [Box{0} Nat]] Unit]", "Empty",
	}[m.r.Intn(12)]
	head, _ := treeOf(read(text)).spine()
	return head.node.S, treeOf(read(text))
}

// whole is an instance with terms for its indices.
func (m *typedMaker) whole(depth int) tree {
	_, x := m.instance()
	typ, _ := m.typeOf(x)
	for typ = m.whnf(typ); typ.node.K == impl.TermPi; typ = m.whnf(typ) {
		index := m.term(typ.kids[0], depth-1)
		x, typ = apply(x, []tree{index}), typ.kids[1].put(index)
	}
	return x
}

// under makes a term with one more variable, and puts a binder around it.
func (m *typedMaker) under(kind int, s string, typ tree, more []tree, body func(v tree) tree) tree {
	p := m.open1(s, typ)
	m.scope = append(m.scope, p)
	inside := body(p.variable()).bound(p.name)
	m.scope = m.scope[:len(m.scope)-1]
	node := impl.Node{K: kind, S: s}
	if kind == impl.TermLam {
		node.M = m.r.Intn(3)
	}
	return tree{node, append(append([]tree{typ}, more...), inside)}
}

// simple is a variable of the type, or what any type has.
func (m *typedMaker) simple(typ tree) tree {
	for _, p := range m.scope {
		if m.r.Intn(2) == 0 && m.same(p.typ, typ) {
			return p.variable()
		}
	}
	if typ.text() == "Nat" {
		return treeOf(read([]string{"two", "four", "Nat.zero", "some"}[m.r.Intn(4)]))
	}
	return apply(treeOf(constant("any", m.mustLevel(typ))), []tree{typ})
}

func (m *typedMaker) term(typ tree, depth int) tree {
	if depth <= 0 {
		return m.simple(typ)
	}
	if head := m.whnf(typ); head.node.K == impl.TermPi && m.r.Intn(5) > 0 {
		return m.under(impl.TermLam, head.node.S, head.kids[0], nil, func(v tree) tree {
			return m.term(head.kids[1].put(v), depth)
		})
	}
	switch m.r.Intn(10) {
	case 0:
		a := m.whole(depth - 1)
		f := m.under(impl.TermLam, "x", a, nil, func(tree) tree { return m.term(typ, depth-1) })
		return apply(f, []tree{m.term(a, depth-1)})
	case 1:
		a := m.whole(depth - 1)
		return m.under(impl.TermLet, "x", a, []tree{m.term(a, depth-1)}, func(tree) tree { return m.term(typ, depth-1) })
	case 2:
		return apply(treeOf(constant("id", m.mustLevel(typ))), []tree{typ, m.term(typ, depth-1)})
	case 3, 4, 5:
		return m.recursor(typ, depth)
	case 6:
		return m.lift(typ, depth)
	case 7, 8:
		if typ.text() == "Nat" {
			pairs := treeOf(read("[[Prod{0,0} Nat] Nat]"))
			return tree{impl.Node{K: impl.TermProj, S: "Prod", N: m.r.Intn(2)}, []tree{m.built(pairs, depth-1)}}
		}
	}
	return m.built(typ, depth)
}

// built is a constructor, where one gives the type.
func (m *typedMaker) built(typ tree, depth int) tree {
	head, args := m.whnf(typ).spine()
	if head.node.K != impl.TermConst || m.table[head.node.S].Kind != impl.InfoFamily || len(m.decl(head.node.S).Ctors) == 0 {
		return m.simple(typ)
	}
	d := m.decl(head.node.S)
	c := d.Ctors[m.r.Intn(len(d.Ctors))]
	x := apply(treeOf(constant(c.Name, head.node.Levels...)), args[:d.Fixed])
	at, _ := m.typeOf(x)
	for at.node.K == impl.TermPi {
		field := m.term(at.kids[0], depth-1)
		x, at = apply(x, []tree{field}), at.kids[1].put(field)
	}
	if !m.same(at, typ) {
		return m.simple(typ)
	}
	return x
}

// recursor is one of an instance that gives the type.
func (m *typedMaker) recursor(typ tree, depth int) tree {
	name, self := m.instance()
	head, args := self.spine()
	levels := append([]impl.Level{m.mustLevel(typ)}, head.node.Levels...)
	x := apply(treeOf(constant(name+".rec", levels...)), args)
	at, _ := m.typeOf(x)
	// the motive gives the type, whatever it is applied to
	over, _ := piTypes(at.kids[0])
	motive := m.constantly(len(over), at.kids[0], typ)
	x, at = apply(x, []tree{motive}), at.kids[1].put(motive)
	for at.node.K == impl.TermPi {
		arg := m.term(at.kids[0], depth-1)
		x, at = apply(x, []tree{arg}), at.kids[1].put(arg)
	}
	return x
}

// constantly is a function of so many arguments that gives one term.
func (m *typedMaker) constantly(count int, typ, x tree) tree {
	if count == 0 {
		return x
	}
	return m.under(impl.TermLam, typ.node.S, typ.kids[0], nil, func(v tree) tree {
		return m.constantly(count-1, typ.kids[1].put(v), x)
	})
}

// lift is one of a quotient of Nat, with a function that gives one term.
func (m *typedMaker) lift(typ tree, depth int) tree {
	level := m.mustLevel(typ)
	relation := treeOf(read("[^ a 0 Nat [^ b 0 Nat True]]"))
	x := apply(treeOf(constant("Quot.lift", zero(), level)), []tree{treeOf(constant("Nat")), relation, typ})
	value := m.term(typ, depth-1)
	at, _ := m.typeOf(x)
	for i, given := range []tree{value, apply(treeOf(constant("Eq.refl", level)), []tree{typ, value})} {
		x = apply(x, []tree{m.constantly(1+2*i, m.whnf(at).kids[0], given)})
		at, _ = m.typeOf(x)
	}
	q := apply(treeOf(constant("any", succ(zero(), 1))), []tree{m.whnf(at).kids[0]})
	if m.r.Intn(3) > 0 {
		q = apply(treeOf(constant("Quot.mk", zero())), []tree{treeOf(constant("Nat")), relation, m.term(treeOf(constant("Nat")), depth-1)})
	}
	return apply(x, []tree{q})
}

// dependent are closed terms whose types hang on what makes steps in them.
func dependent() []string {
	vec := "[[[Nat.rec{2} [^ t 0 Nat [[Vec{1} Nat] #0]]] [Vec.nil{1} Nat]] [^ n 0 Nat [^ ih 0 [[Vec{1} Nat] #0] [[[[Vec.cons{1} Nat] #1] #1] #0]]]]"
	again := "[[[[Vec.rec{2,1} Nat] [^ n 0 Nat [^ v 0 [[Vec{1} Nat] #0] [[Vec{1} Nat] #1]]]] [Vec.nil{1} Nat]]" +
		" [^ m 0 Nat [^ a 0 Nat [^ v 0 [[Vec{1} Nat] #1] [^ ih 0 [[Vec{1} Nat] #2] [[[[Vec.cons{1} Nat] #3] #2] #0]]]]]]"
	pairs := "[[Sigma{0,0} Nat] [^ a 0 Nat Nat]]"
	return []string{
		"[" + vec + " two]",
		"[" + vec + " four]",
		"[" + vec + " [Nat.succ some]]",
		"[[" + again + " four] [" + vec + " four]]",
		"[[" + again + " some] [any{2} [[Vec{1} Nat] some]]]",
		"[^ n 0 Nat [[" + again + " [Nat.succ #0]] [" + vec + " [Nat.succ #0]]]]",
		"[[" + again + " [Nat.succ some]] [[[[Vec.cons{1} Nat] some] two] [" + vec + " some]]]",
		"[[[[[Sigma.rec{0,0,0} Nat] [^ a 0 Nat Nat]] [^ s 0 " + pairs + " [[[Eq{1} " + pairs + "] #0] #0]]]" +
			" [^ a 0 Nat [^ b 0 Nat [[Eq.refl{1} " + pairs + "] [[[[Sigma.mk{0,0} Nat] [^ a 0 Nat Nat]] #1] #0]]]]] [any{1} " + pairs + "]]",
		"[[[[Box.rec{0,0} Nat] [^ s 0 [Box{0} Nat] [[[Eq{1} Nat] [. Box 0 #0]] [. Box 0 #0]]]] [^ a 0 Nat [[Eq.refl{1} Nat] #0]]] [any{1} [Box{0} Nat]]]",
		"[[^ P 0 [! n 0 Nat *0] [^ x 0 [#0 [[add two] some]] #0]] [^ n 0 Nat [[[Eq{1} Nat] #0] four]]]",
		"[. Sigma 1 [[[[Sigma.mk{0,1} Nat] [^ n 0 Nat [[Vec{1} Nat] #0]]] two] [" + vec + " two]]]",
	}
}

// holdTypes is promise 7 for one closed term: it has one type behind each step,
// and at its Whnf and its normal form.
func holdTypes(t *testing.T, f *typer, x impl.Term, counts []int) {
	t.Helper()
	typ, ok := f.typeOf(treeOf(x))
	if !ok {
		t.Fatalf("%s has no type", written(x))
	}
	hold := func(what string, y impl.Term) {
		t.Helper()
		if got, ok := f.typeOf(treeOf(y)); !ok || !f.same(got, typ) {
			t.Fatalf("%s of\n%s\nis\n%s\nof another type than %s", what, written(x), written(y), typ.text())
		}
	}
	y := x
	for range 15 {
		z, kind, code := impl.Step(f.e, y)
		if code != 0 {
			t.Fatalf("%s: code %d", written(y), code)
		}
		if counts[kind]++; kind == 0 {
			break
		}
		hold("step "+strconv.Itoa(kind), z)
		y = z
	}
	for _, deep := range []bool{false, true} {
		if y, _, code := impl.Whnf(f.e, x, deep, 1000); code == 0 {
			hold("Whnf", y)
		}
	}
	if y, _, code := impl.Normal(f.e, x, 1000); code == 0 {
		hold("Normal", y)
	}
}

func newTyper(e impl.Env) *typer {
	return &typer{slowSteps: slowStepsIn(e), types: map[string]tree{}}
}

func TestStepsKeepTypes(t *testing.T) {
	t.Parallel()
	e := stepEnv()
	counts := make([]int, 8)
	for _, text := range dependent() {
		holdTypes(t, newTyper(e), read(text), counts)
	}
	r := rand.New(rand.NewSource(74))
	lost := 0
	for range 400 {
		func() {
			defer func() {
				if met := recover(); met != nil {
					_ = met.(tooLong)
					lost++
				}
			}()
			m := &typedMaker{typer: newTyper(e), r: r}
			typ := m.whole(1)
			holdTypes(t, m.typer, m.term(typ, 1+r.Intn(3)).term(), counts)
		}()
	}
	if lost > 40 || slices.Min(counts) < 10 {
		t.Errorf("%d were too long; kinds %v", lost, counts)
	}
}

// The test of types would be worth nothing if it took anything.
func TestTypesOfStepsTest(t *testing.T) {
	f := newTyper(stepEnv())
	for _, c := range []struct{ a, b string }{
		{"two", "Nat"},
		{"[. Prod 0 [any{1} [[Prod{0,0} Nat] Unit]]]", "Nat"},
		{"[. Sigma 1 [any{1} [[Sigma{0,0} Nat] [^ a 0 Nat Nat]]]]", "Nat"},
		{"[any{2} [[Vec{1} Nat] four]]", "[[Vec{1} Nat] [[add two] two]]"},
		{"[= n Nat two [any{2} [[Vec{1} Nat] #0]]]", "[[Vec{1} Nat] two]"},
	} {
		if typ, ok := f.typeOf(treeOf(read(c.a))); !ok || !f.same(typ, treeOf(read(c.b))) {
			t.Errorf("%s has the type %v, %v", c.a, typ, ok)
		}
	}
	for _, text := range []string{"[two two]", "[Nat.succ Nat]", "[. Prod 0 two]", "[^ x 0 two #0]", "[= x Nat Nat #0]", "?0", "[[[Vec.cons{1} Nat] two] Unit.star]"} {
		if _, ok := f.typeOf(treeOf(read(text))); ok {
			t.Errorf("%s has a type", text)
		}
	}
	typ, _ := f.typeOf(treeOf(read("[any{2} [[Vec{1} Nat] two]]")))
	if f.same(typ, treeOf(read("[[Vec{1} Nat] four]"))) {
		t.Errorf("two types that are not the same")
	}
}
