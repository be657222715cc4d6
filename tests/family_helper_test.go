package tests

import (
	"slices"
	"strconv"
	"strings"
	"testing"

	"loop.example/g00005/impl"
)

// read gives the term of a text that a test has written.
func read(text string) impl.Term {
	t, code, at := impl.ParseTerm([]byte(text))
	if code != 0 {
		panic(text + " has a mistake at byte " + strconv.Itoa(at))
	}
	return t
}

// family is a declaration of a family; ctors are names and types in turn.
func family(name, params string, fixed int, typ string, ctors ...string) impl.Decl {
	d := impl.Decl{Kind: impl.KindFamily, Name: name, Params: strings.Fields(params), Fixed: fixed, Type: read(typ)}
	for i := 0; i < len(ctors); i += 2 {
		d.Ctors = append(d.Ctors, impl.Ctor{Name: ctors[i], Type: read(ctors[i+1])})
	}
	return d
}

// declared is a declaration of another kind; it has a value when there is a
// text of one.
func declared(kind int, name, params, typ, value string) impl.Decl {
	d := impl.Decl{Kind: kind, Name: name, Params: strings.Fields(params), Type: read(typ)}
	if value != "" {
		d.Value = read(value)
	}
	return d
}

func copyDecl(d impl.Decl) impl.Decl {
	d.Params = slices.Clone(d.Params)
	d.Type = copyTerm(d.Type)
	d.Value = copyTerm(d.Value)
	d.Ctors = slices.Clone(d.Ctors)
	for i := range d.Ctors {
		d.Ctors[i].Type = copyTerm(d.Ctors[i].Type)
	}
	return d
}

func equalDecls(a, b impl.Decl) bool {
	return a.Kind == b.Kind && a.Name == b.Name && slices.Equal(a.Params, b.Params) && a.Fixed == b.Fixed &&
		equalTerms(a.Type, b.Type) && equalTerms(a.Value, b.Value) &&
		slices.EqualFunc(a.Ctors, b.Ctors, func(x, y impl.Ctor) bool {
			return x.Name == y.Name && equalTerms(x.Type, y.Type)
		})
}

func equalFields(a, b []impl.Field) bool {
	return slices.EqualFunc(a, b, func(x, y impl.Field) bool {
		return x.Name == y.Name && equalTerms(x.Type, y.Type) && x.Self == y.Self && x.Under == y.Under
	})
}

func natFamily() impl.Decl {
	return family("Nat", "", 0, "*1", "Nat.zero", "Nat", "Nat.succ", "[! n 0 Nat Nat]")
}

func listFamily() impl.Decl {
	return family("List", "u", 1, "[! A 1 *u+1 *u+1]",
		"List.nil", "[! B 0 *u+1 [List{u} #0]]",
		"List.cons", "[! A 2 *u+1 [! head 1 #0 [! tail 2 [List{u} #1] [List{u} #2]]]]")
}

func vecFamily() impl.Decl {
	return family("Vec", "u", 1, "[! A 0 *u [! n 2 Nat *u+1]]",
		"Vec.nil", "[! A 0 *u [[Vec{u} #0] Nat.zero]]",
		"Vec.cons", "[! A 0 *u [! m 1 Nat [! a 0 #1 [! v 0 [[Vec{u} #2] #1] [[Vec{u} #3] [Nat.succ #2]]]]]]")
}

func accFamily() impl.Decl {
	return family("Acc", "u", 2, "[! A 0 *u [! r 0 [! x 0 #0 [! y 0 #1 *0]] [! x 0 #1 *0]]]",
		"Acc.intro", "[! A 0 *u [! r 0 [! x 0 #0 [! y 0 #1 *0]] [! x 0 #1 [! h 0 [! y 1 #2 [! p 2 [[#2 #0] #1] [[[Acc{u} #4] #3] #1]]] [[[Acc{u} #3] #2] #1]]]]]")
}

func prodFamily() impl.Decl {
	return family("Prod", "u v", 2, "[! A 0 *u+1 [! B 0 *v+1 *max(u,v)+1]]",
		"Prod.mk", "[! A 1 *u+1 [! B 1 *v+1 [! a 0 #1 [! b 0 #1 [[Prod{u,v} #3] #2]]]]]")
}

// formedFamilies are some of every kind.
func formedFamilies() []impl.Decl {
	return []impl.Decl{
		natFamily(), listFamily(), vecFamily(), accFamily(), prodFamily(),
		family("Empty", "", 0, "*1"),
		family("False", "", 0, "*0"),
		family("Unit", "", 0, "*1", "star", "Unit"),
		family("Or", "", 2, "[! a 0 *0 [! b 0 *0 *0]]", "Or.left", "[! a 0 *0 [! b 0 *0 [! h 0 #1 [[Or #2] #1]]]]", "Or.right", "[! a 0 *0 [! b 0 *0 [! h 0 #0 [[Or #2] #1]]]]"),
		family("Eq", "u", 2, "[! A 1 *u [! a 0 #0 [! b 0 #1 *0]]]", "Eq.refl", "[! A 1 *u [! a 0 #0 [[[Eq{u} #1] #0] #0]]]"),
		family("T", "v", 0, "*v+1", "T.mk", "[! f 0 [! x 0 *v T{v}] T{v}]"),
	}
}

// The slow functions below open binders: a variable is a TermVar of N -1 with a
// name of its own in S, so that nothing is ever numbered or lifted.
func named(name string) tree {
	return tree{node: impl.Node{K: impl.TermVar, N: -1, S: name}}
}

func (x tree) isNamed(name string) bool {
	return x.node.K == impl.TermVar && x.node.S == name
}

// with puts a tree for a variable with a name.
func (x tree) with(name string, a tree) tree {
	return x.changed(0, func(x tree, _ int) tree {
		if x.isNamed(name) {
			return a
		}
		return x
	})
}

// bound numbers a variable with a name, for a binder that is put around.
func (x tree) bound(name string) tree {
	return x.changed(0, func(x tree, under int) tree {
		if x.isNamed(name) {
			return treeOf(variable(under))
		}
		return x
	})
}

func (x tree) has(name string) bool {
	if (x.node.K == impl.TermConst || x.node.K == impl.TermProj) && x.node.S == name {
		return true
	}
	return slices.ContainsFunc(x.kids, func(kid tree) bool { return kid.has(name) })
}

// part is a TermPi that was opened, or is to be made: S, M, its variable's name
// and its type.
type part struct {
	s    string
	m    int
	name string
	typ  tree
}

func (p part) variable() tree {
	return named(p.name)
}

func variables(parts []part) []tree {
	var list []tree
	for _, p := range parts {
		list = append(list, p.variable())
	}
	return list
}

// opener gives out names.
type opener struct {
	count int
}

func (o *opener) part(s string, m int, typ tree) part {
	o.count++
	return part{s, m, "x" + strconv.Itoa(o.count), typ}
}

// open gives a telescope with named variables, the first ones being given, and
// what is within.
func (o *opener) open(x tree, given ...tree) ([]part, tree) {
	var parts []part
	for x.node.K == impl.TermPi {
		p := o.part(x.node.S, x.node.M, x.kids[0])
		if len(parts) < len(given) {
			p.name = given[len(parts)].node.S
		}
		parts = append(parts, p)
		x = x.kids[1].put(p.variable())
	}
	return parts, x
}

// piAround puts TermPis around a tree.
func piAround(parts []part, x tree) tree {
	for _, p := range slices.Backward(parts) {
		x = tree{impl.Node{K: impl.TermPi, S: p.s, M: p.m}, []tree{p.typ, x.bound(p.name)}}
	}
	return x
}

// plainly has M 0 for all of them.
func plainly(parts []part) []part {
	parts = slices.Clone(parts)
	for i := range parts {
		parts[i].m = 0
	}
	return parts
}

func apply(f tree, lists ...[]tree) tree {
	for _, arg := range slices.Concat(lists...) {
		f = tree{impl.Node{K: impl.TermApp}, []tree{f, arg}}
	}
	return f
}

func (x tree) spine() (tree, []tree) {
	var args []tree
	for x.node.K == impl.TermApp {
		args = append([]tree{x.kids[1]}, args...)
		x = x.kids[0]
	}
	return x, args
}

func params(names []string) []impl.Level {
	var levels []impl.Level
	for _, name := range names {
		levels = append(levels, param(name))
	}
	return levels
}

func selfOf(d impl.Decl) tree {
	return treeOf(constant(d.Name, params(d.Params)...))
}

// slowOwn gives the indices of F's own, where the parameters are these.
func slowOwn(d impl.Decl, x tree, fixed []tree, indices int) ([]tree, bool) {
	head, args := x.spine()
	if head.text() != selfOf(d).text() || len(args) != len(fixed)+indices {
		return nil, false
	}
	for i, v := range fixed {
		if !args[i].isNamed(v.node.S) {
			return nil, false
		}
	}
	args = args[len(fixed):]
	return args, !slices.ContainsFunc(args, func(x tree) bool { return x.has(d.Name) })
}

// slowSelf gives the telescope and the indices of a field of F.
func slowSelf(d impl.Decl, o *opener, typ tree, fixed []tree, indices int) ([]part, []tree, bool) {
	parts, inner := o.open(typ)
	for _, p := range parts {
		if p.typ.has(d.Name) {
			return nil, nil, false
		}
	}
	args, ok := slowOwn(d, inner, fixed, indices)
	return parts, args, ok
}

// piTypes are the types of a telescope as they stand there, and what is within.
func piTypes(x tree) ([]tree, tree) {
	var types []tree
	for x.node.K == impl.TermPi {
		types = append(types, x.kids[0])
		x = x.kids[1]
	}
	return types, x
}

// slowForm is for shaped families.
func slowForm(d impl.Decl) (int, int) {
	types, sort := piTypes(treeOf(d.Type))
	if sort.node.K != impl.TermSort || len(types) < d.Fixed || treeOf(d.Type).has(d.Name) || impl.LevelSign(sort.node.Levels[0]) == 2 {
		return impl.CodeFamily, 0
	}
	for i, c := range d.Ctors {
		own, _ := piTypes(treeOf(c.Type))
		if len(own) < d.Fixed {
			return impl.CodeCtor, i
		}
		for k := range d.Fixed {
			if !impl.SameTerm(own[k].term(), types[k].term()) {
				return impl.CodeCtor, i
			}
		}
		o := &opener{}
		parts, inner := o.open(treeOf(c.Type))
		fixed := variables(parts[:d.Fixed])
		if _, ok := slowOwn(d, inner, fixed, len(types)-d.Fixed); !ok {
			return impl.CodeCtor, i
		}
		for _, p := range parts[d.Fixed:] {
			if _, _, ok := slowSelf(d, o, p.typ, fixed, len(types)-d.Fixed); !ok && p.typ.has(d.Name) {
				return impl.CodePositive, i
			}
		}
	}
	return 0, 0
}

// slowFields is for formed families.
func slowFields(d impl.Decl, ctor int) []impl.Field {
	all, _ := piTypes(treeOf(d.Type))
	types, _ := piTypes(treeOf(d.Ctors[ctor].Type))
	o := &opener{}
	parts, _ := o.open(treeOf(d.Ctors[ctor].Type))
	var fields []impl.Field
	for i, p := range parts[d.Fixed:] {
		field := impl.Field{Name: p.s, Type: types[d.Fixed+i].term()}
		under, _, ok := slowSelf(d, o, p.typ, variables(parts[:d.Fixed]), len(all)-d.Fixed)
		if ok {
			field.Self, field.Under = true, len(under)
		}
		fields = append(fields, field)
	}
	return fields
}

func slowInProp(d impl.Decl) bool {
	_, sort := piTypes(treeOf(d.Type))
	return impl.LevelSign(sort.node.Levels[0]) == 1
}

// slowParams is for formed families.
func slowParams(d impl.Decl) []string {
	if slowInProp(d) && len(d.Ctors) > 0 {
		return d.Params
	}
	name := "v"
	for i := 1; slices.Contains(d.Params, name); i++ {
		name = "v" + strconv.Itoa(i)
	}
	return append([]string{name}, d.Params...)
}

// slowRecursor is for formed families.
func slowRecursor(d impl.Decl) tree {
	o := &opener{}
	parts, _ := o.open(treeOf(d.Type))
	parts = plainly(parts)
	fixed, indices := parts[:d.Fixed], parts[d.Fixed:]
	vars := variables(fixed)
	result := prop()
	if own := slowParams(d); len(own) > len(d.Params) {
		result = universe(param(own[0]))
	}
	major := o.part("t", 0, apply(selfOf(d), vars, variables(indices)))
	motive := o.part("C", 0, piAround(append(slices.Clone(indices), major), treeOf(result)))
	all := append(slices.Clone(fixed), motive)
	for _, c := range d.Ctors {
		short := c.Name[strings.LastIndex(c.Name, ".")+1:]
		all = append(all, o.part(short, 0, slowMinor(d, o, c, vars, motive.variable(), len(indices))))
	}
	all = append(append(all, indices...), major)
	return piAround(all, apply(motive.variable(), variables(indices), []tree{major.variable()}))
}

func slowMinor(d impl.Decl, o *opener, c impl.Ctor, fixed []tree, motive tree, indices int) tree {
	parts, inner := o.open(treeOf(c.Type), fixed...)
	fields := plainly(parts[len(fixed):])
	list := slices.Clone(fields)
	for _, field := range fields {
		under, args, ok := slowSelf(d, o, field.typ, fixed, indices)
		if !ok {
			continue
		}
		given := apply(field.variable(), variables(under))
		list = append(list, o.part("ih", 0, piAround(plainly(under), apply(motive, args, []tree{given}))))
	}
	args, _ := slowOwn(d, inner, fixed, indices)
	made := apply(treeOf(constant(c.Name, params(d.Params)...)), fixed, variables(fields))
	return piAround(list, apply(motive, args, []tree{made}))
}

func holdForm(t *testing.T, what string, d impl.Decl, code, ctor int) {
	t.Helper()
	gotCode, gotCtor := impl.FamilyForm(d)
	if gotCode != code || gotCtor != ctor {
		t.Errorf("%s: code %d at %d, not code %d at %d", what, gotCode, gotCtor, code, ctor)
	}
}

// holdUnformed fails when one of the functions takes the declaration for a
// formed family.
func holdUnformed(t *testing.T, what string, d impl.Decl) {
	t.Helper()
	for _, ctor := range []int{-1, 0, 1, len(d.Ctors)} {
		if fields, ok := impl.FieldsOf(d, ctor); ok || len(fields) != 0 {
			t.Errorf("%s: fields %v, %v", what, fields, ok)
		}
	}
	if n := impl.IndicesOf(d); n != -1 {
		t.Errorf("%s: %d indices", what, n)
	}
	if impl.IsProp(d) || impl.IsStructure(d) {
		t.Errorf("%s: in Prop, or a structure", what)
	}
	if names := impl.RecursorParams(d); len(names) != 0 {
		t.Errorf("%s: params %v", what, names)
	}
	if typ, code := impl.RecursorType(d); code != impl.CodeInput || len(typ.Nodes) != 0 {
		t.Errorf("%s: a recursor with code %d", what, code)
	}
}

// holdFormed holds all functions against the slow ones.
func holdFormed(t *testing.T, what string, d impl.Decl) {
	t.Helper()
	holdForm(t, what, d, 0, 0)
	types, _ := piTypes(treeOf(d.Type))
	if n := impl.IndicesOf(d); n != len(types)-d.Fixed {
		t.Errorf("%s: %d indices", what, n)
	}
	self := false
	for i := range d.Ctors {
		want := slowFields(d, i)
		if got, ok := impl.FieldsOf(d, i); !ok || !equalFields(got, want) {
			t.Errorf("%s: fields of %d: %v and %v", what, i, got, ok)
		}
		self = self || slices.ContainsFunc(want, func(f impl.Field) bool { return f.Self })
	}
	if impl.IsProp(d) != slowInProp(d) {
		t.Errorf("%s: whether it is in Prop", what)
	}
	if impl.IsStructure(d) != (!slowInProp(d) && len(d.Ctors) == 1 && len(types) == d.Fixed && !self) {
		t.Errorf("%s: whether it is a structure", what)
	}
	holdRecursor(t, what, d, slowRecursor(d).text())
}

// holdRecursor holds the recursor's type against a text, and what is to be said
// of any such type.
func holdRecursor(t *testing.T, what string, d impl.Decl, want string) {
	t.Helper()
	names := impl.RecursorParams(d)
	if !slices.Equal(names, slowParams(d)) {
		t.Errorf("%s: params %v", what, names)
	}
	typ, code := impl.RecursorType(d)
	if code != 0 || !impl.Closed(typ, 0) || len(impl.HolesOf(typ)) != 0 {
		t.Errorf("%s: code %d, or a type that is not closed", what, code)
		return
	}
	if written(typ) != want {
		t.Errorf("%s: a recursor of type\n%s, not\n%s", what, written(typ), want)
	}
	for _, name := range impl.LevelsOf(typ) {
		if !slices.Contains(names, name) {
			t.Errorf("%s: a parameter %s that is none", what, name)
		}
	}
}
