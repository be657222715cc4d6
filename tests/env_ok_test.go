package tests

import (
	"slices"
	"strconv"
	"strings"
	"testing"

	"loop.example/g00005/impl"
)

func TestEnvConstants(t *testing.T) {
	got := []int{
		impl.MaxDecls, impl.InfoAxiom, impl.InfoDef, impl.InfoTheorem, impl.InfoFamily, impl.InfoCtor, impl.InfoRecursor,
		impl.InfoQuot, impl.InfoMk, impl.InfoLift, impl.InfoInd, impl.InfoSound,
	}
	if !slices.Equal(got, []int{300, 1, 2, 3, 4, 5, 6, 7, 8, 9, 10, 11}) {
		t.Errorf("%v", got)
	}
}

func point(name string) impl.Decl {
	return declared(impl.KindAxiom, name, "", "*1", "")
}

// points are so many axioms.
func points(count int) []impl.Decl {
	var list []impl.Decl
	for i := range count {
		list = append(list, point("p"+strconv.Itoa(i)))
	}
	return list
}

func TestEnvOkCounts(t *testing.T) {
	holdEnv(t, "none", impl.Env{}, true)
	holdEnv(t, "no list", impl.Env{Decls: []impl.Decl{}}, true)
	holdEnv(t, "one of all", sampleEnv(), true)
	for _, count := range []int{1, 2, 20} {
		holdEnv(t, strconv.Itoa(count)+" declarations", envOf(points(count)...), true)
	}
	for _, count := range []int{impl.MaxDecls - 1, impl.MaxDecls, impl.MaxDecls + 1, 2 * impl.MaxDecls, 100000} {
		e := envOf(points(count)...)
		last := "p" + strconv.Itoa(count-1)
		_, found := impl.Find(e, last)
		if ok := count <= impl.MaxDecls; impl.EnvOk(e) != ok || found != ok || impl.Known(e, constant("p0"), 0) != ok {
			t.Errorf("%d declarations: valid is %v", count, !ok)
		}
	}
	// It is declarations that are counted, not names.
	wide := family("F", "", 0, "*1")
	for i := range impl.MaxCtors {
		wide.Ctors = append(wide.Ctors, impl.Ctor{Name: "c" + strconv.Itoa(i), Type: constant("F")})
	}
	holdEnv(t, "many constructors", behind(envOf(points(280)...), wide), true)
}

// holdPlaced puts a declaration in front of some axioms, between and behind.
func holdPlaced(t *testing.T, what string, d impl.Decl, want bool) {
	t.Helper()
	for at := range 3 {
		holdEnv(t, what+" at "+strconv.Itoa(at), envOf(slices.Insert(points(2), at, d)...), want)
	}
}

func TestEnvOkShapes(t *testing.T) {
	holdPlaced(t, "a shaped one", declared(impl.KindDef, "d", "u", "*u+1", "*u"), true)
	for i, x := range wrongDeclTerms() {
		d := declared(impl.KindDef, "d", "u", "*u+1", "*u")
		d.Type = x
		holdPlaced(t, "type "+strconv.Itoa(i), d, false)
		d = declared(impl.KindTheorem, "d", "u", "*u+1", "*u")
		d.Value = x
		holdPlaced(t, "value "+strconv.Itoa(i), d, false)
		d = family("F", "u", 0, "*1", "a", "F{u}", "b", "F{u}")
		d.Ctors[1].Type = x
		holdPlaced(t, "constructor "+strconv.Itoa(i), d, false)
	}
	for what, change := range map[string]func(d *impl.Decl){
		"Kind 0":     func(d *impl.Decl) { d.Kind = 0 },
		"Kind 6":     func(d *impl.Decl) { d.Kind = 6 },
		"no Name":    func(d *impl.Decl) { d.Name = "" },
		"long Name":  func(d *impl.Decl) { d.Name = strings.Repeat("n", impl.MaxName-3) },
		"two Params": func(d *impl.Decl) { d.Params = []string{"u", "u"} },
		"Fixed 1":    func(d *impl.Decl) { d.Fixed = 1 },
		"a Value":    func(d *impl.Decl) { d.Value = prop() },
		"a Ctor":     func(d *impl.Decl) { d.Ctors = []impl.Ctor{{Name: "c", Type: prop()}} },
	} {
		d := declared(impl.KindAxiom, "d", "u", "*u", "")
		change(&d)
		holdPlaced(t, what, d, false)
	}
	holdPlaced(t, "nothing", impl.Decl{}, false)
}

func TestEnvOkForms(t *testing.T) {
	for _, c := range []struct {
		what string
		d    impl.Decl
		ok   bool
	}{
		{"formed", family("F", "", 0, "*1", "c", "[! x 0 F F]"), true},
		{"no constructor", family("F", "", 0, "*0"), true},
		{"a type that is no sort", family("F", "", 0, "p0"), false},
		{"a sort that may be Prop", family("F", "u", 0, "*u"), false},
		{"too few types", family("F", "", 2, "[! A 0 *1 *1]"), false},
		{"itself in its type", family("F", "", 0, "[! A 0 F *1]"), false},
		{"another constructor", family("F", "", 0, "*1", "c", "F", "d", "*1"), false},
		{"at a wrong place", family("F", "", 0, "*1", "c", "[! x 0 [! y 0 F F] F]"), false},
		{"an own with another number of levels", family("F", "u", 0, "*1", "c", "F"), false},
		{"an own with other levels", family("F", "u", 0, "*1", "c", "F{0}"), false},
	} {
		holdPlacedBehind(t, c.what, c.d, c.ok)
	}
	rest := len(slowRecursor(greatFamily(1)).term().Nodes) - 1
	for nodes, ok := range map[int]bool{impl.MaxNodes - rest: true, impl.MaxNodes - rest + 1: false} {
		d := family("F", "", 0, "*1", "k", "F")
		d.Ctors[0].Type = pi("x", 0, projs(nodes-1, constant("c")), constant("F"))
		e := envOf(family("P", "", 0, "*1", "P.mk", "[! x 0 *0 P]"), point("c"), d)
		if _, code := impl.FamilyForm(d); code != 0 || impl.EnvOk(e) != ok || slowEnvOk(e) != ok {
			t.Errorf("a field of %d nodes: valid is %v", nodes, !ok)
		}
		if _, found := impl.Find(e, "c"); found != ok {
			t.Errorf("a field of %d nodes: found is %v", nodes, found)
		}
	}
}

func holdPlacedBehind(t *testing.T, what string, d impl.Decl, want bool) {
	t.Helper()
	holdEnv(t, what, envOf(append(points(2), d)...), want)
	holdEnv(t, what+" and one more", envOf(append(points(2), d, point("more"))...), want)
}

func TestEnvOkNames(t *testing.T) {
	named := func(name string) []impl.Decl {
		return []impl.Decl{
			point(name),
			declared(impl.KindDef, name, "", "*1", "*0"),
			declared(impl.KindTheorem, name, "", "*1", "*0"),
			family(name, "", 0, "*1"),
			family("Other", "", 0, "*1", name, "Other"),
			family("Other", "", 0, "*1", "Other.first", "Other", name, "Other"),
		}
	}
	base := envOf(eqFamily(), point("a"), declared(impl.KindDef, "d", "", "*1", "*0"), declared(impl.KindTheorem, "t", "", "*1", "*0"),
		family("F", "", 0, "*1", "F.one", "F", "far", "F"), quotients())
	for _, name := range []string{"a", "d", "t", "F", "F.one", "far", "F.rec", "Eq", "Eq.refl", "Eq.rec", "Quot", "Quot.mk", "Quot.lift", "Quot.ind", "Quot.sound"} {
		for i, d := range named(name) {
			what := name + " again, way " + strconv.Itoa(i)
			holdEnv(t, what, behind(base, d), false)
			if name[0] != 'E' {
				holdEnv(t, what+", in front", envOf(slices.Insert(slices.Clone(base.Decls), 1, d)...), false)
			}
		}
	}
	for _, name := range []string{"b", "F.two", "one", "rec", "F.rec.rec", "Quot.rec", "Quot.eq", "mk", "a.rec", "d.a", "f"} {
		for i, d := range named(name) {
			holdEnv(t, name+", way "+strconv.Itoa(i), behind(base, d), true)
		}
	}
	// A recursor has a name that is given nowhere else.
	for _, e := range []impl.Env{
		envOf(point("G.rec"), family("G", "", 0, "*1")),
		envOf(family("G", "", 0, "*1"), point("G.rec")),
		envOf(family("H", "", 0, "*1", "G.rec", "H"), family("G", "", 0, "*1")),
		envOf(family("G", "", 0, "*1"), family("G.rec", "", 0, "*1")),
		envOf(family("G", "", 0, "*1"), family("H", "", 0, "*1", "G.rec", "H")),
		envOf(eqFamily(), quotients(), quotients()),
		envOf(eqFamily(), eqFamily(), quotients()),
	} {
		holdEnv(t, strings.Join(allNames(e), " "), e, false)
	}
}

// holdTerm puts a text at each place where a declaration has a term.
func holdTerm(t *testing.T, e impl.Env, text string, want bool) {
	t.Helper()
	for _, kind := range []int{impl.KindAxiom, impl.KindDef, impl.KindTheorem} {
		value := "*0"
		if kind == impl.KindAxiom {
			value = ""
		}
		holdEnv(t, text+" as a type", behind(e, declared(kind, "new", "", text, value)), want)
		if value != "" {
			holdEnv(t, text+" as a value", behind(e, declared(kind, "new", "", "*0", text)), want)
		}
	}
	holdEnv(t, text+" in a family's type", behind(e, family("New", "", 0, "[! x 0 "+text+" *1]")), want)
	holdEnv(t, text+" in a constructor's type", behind(e, family("New", "", 0, "*1", "k", "New", "new", "[! x 0 "+text+" New]")), want || text == "New")
	holdEnv(t, text+" in an index", behind(e, family("New", "", 0, "[! x 0 *1 *1]", "new", "[New "+text+"]")), want)
}

func TestEnvOkKnown(t *testing.T) {
	t.Parallel()
	e := sampleEnv()
	for text, want := range map[string]bool{
		"*0": true, "Nat": true, "[Nat.succ Nat.zero]": true, "Nat.rec{0}": true, "some": true, "two": true, "easy": true, "Eq{1}": true, "Eq.refl{0}": true,
		"Eq.rec{0,1}": false, "Eq.rec{1}": true, "Quot{1}": true, "Quot.mk{0}": true, "Quot.lift{0,1}": true, "Quot.ind{0}": true, "Quot.sound{2}": true,
		"Prod{0,1}": true, "Prod.mk{0,0}": true, "Prod.rec{0,0,0}": true, "id{max(0,3)}": true, "many{0,1,2,3,4,5}": true,
		"nope": false, "Nat{0}": false, "Nat.rec": false, "Nat.rec{0,0}": false, "Nat.zero{0}": false, "some{1}": false, "two{0}": false, "easy{0}": false,
		"Eq": false, "Eq{0,0}": false, "Eq.refl": false, "Quot": false, "Quot{0,0}": false, "Quot.mk": false, "Quot.lift{0}": false, "Quot.lift": false,
		"Quot.lift{0,0,0}": false, "Quot.ind{0,0}": false, "Quot.sound": false, "Prod{0}": false, "Prod.mk{0}": false, "Prod.rec{0,0}": false, "id": false, "many{0,1,2,3,4}": false,
		"Six{0,1,2,3,4,5}": true, "Six.mk{0,1,2,3,4,5}": true, "Six.rec{0,1,2,3,4,5}": false,
		"[. Prod 0 Nat]": true, "[. Prod 1 Nat]": true, "[. Prod 2 Nat]": false, "[. Prod 20000 Nat]": false, "[. Six 0 Nat]": true, "[. Six 1 Nat]": false,
		"[. Nat 0 Nat]": false, "[. Eq 0 Nat]": false, "[. Vec 0 Nat]": false, "[. two 0 Nat]": false, "[. some 0 Nat]": false, "[. easy 0 Nat]": false,
		"[. Prod.mk 0 Nat]": false, "[. Prod.rec 0 Nat]": false, "[. Quot 0 Nat]": false, "[. nope 0 Nat]": false,
		"[^ x 0 Nat [. Prod 1 [. Prod 0 #0]]]": true, "[^ x 0 Nat [. Prod 1 [. Prod 2 #0]]]": false, "[= x Nat some [two nope]]": false, "[= x nope some #0]": false, "[= x Nat nope #0]": false,
		"[! x 0 Nat [! y 1 nope Nat]]": false, "[nope Nat]": false, "[Nat nope]": false, "[. Prod 0 nope]": false,
		// Its own name, and names that stand behind it.
		"new": false, "New": false, "New.rec{0}": false, "[. new 0 Nat]": false, "[. New 0 Nat]": false, "k": false,
	} {
		holdTerm(t, e, text, want)
	}
	for i := range e.Decls {
		cut := envOf(e.Decls[i:]...)
		holdEnv(t, "behind "+strconv.Itoa(i), cut, i == 0 || i == len(e.Decls)-1)
		holdEnv(t, "up to "+strconv.Itoa(i), envOf(e.Decls[:i]...), true)
	}
	swapped := copyEnv(e)
	slices.Reverse(swapped.Decls)
	holdEnv(t, "from behind", swapped, false)
}

func TestEnvOkLaterNames(t *testing.T) {
	user := declared(impl.KindDef, "user", "", "*1", "later")
	later := point("later")
	holdEnv(t, "behind it", envOf(later, user), true)
	holdEnv(t, "in front of it", envOf(user, later), false)
	for kind, d := range map[string]impl.Decl{
		"type":  declared(impl.KindAxiom, "user", "", "later", ""),
		"value": declared(impl.KindTheorem, "user", "", "*1", "later"),
		"ctor":  family("User", "", 0, "*1", "user", "[! x 0 later User]"),
		"proj":  declared(impl.KindDef, "user", "", "*1", "[. Later 0 *1]"),
	} {
		pair := family("Later", "", 0, "*1", "later", "[! x 0 *0 Later]")
		holdEnv(t, kind+" behind", envOf(pair, d), true)
		holdEnv(t, kind+" in front", envOf(d, pair), false)
	}
	// Its own name in a Type, a Value, and with what a family makes.
	for _, d := range []impl.Decl{
		declared(impl.KindAxiom, "a", "", "a", ""),
		declared(impl.KindDef, "a", "", "*1", "a"),
		declared(impl.KindDef, "a", "", "a", "*1"),
		declared(impl.KindTheorem, "a", "", "*0", "[^ x 0 *0 a]"),
		declared(impl.KindTheorem, "a", "", "[a a]", "*0"),
	} {
		holdEnv(t, "its own name", envOf(d), false)
	}
}

func TestEnvOkOwnFamily(t *testing.T) {
	for _, c := range []struct {
		what string
		d    impl.Decl
		ok   bool
	}{
		{"a field of it", family("F", "u", 0, "*1", "F.a", "[! x 0 F{u} F{u}]"), true},
		{"a field with another number of levels", family("F", "u", 0, "*1", "F.a", "[! x 0 F F{u}]"), false},
		{"a field with two levels", family("F", "u", 0, "*1", "F.a", "[! x 0 F{u,u} F{u}]"), false},
		{"its constructor in an index", family("F", "", 0, "[! x 0 *1 *1]", "F.a", "[F *0]", "F.b", "[F F.a]"), false},
		{"its own constructor", family("F", "", 0, "[! x 0 *1 *1]", "F.a", "[F F.a]"), false},
		{"a later constructor", family("F", "", 0, "[! x 0 *1 *1]", "F.a", "[F F.b]", "F.b", "[F *0]"), false},
		{"its constructor in a field", family("F", "", 0, "*1", "F.a", "F", "F.b", "[! x 0 F.a F]"), false},
		{"its recursor in a field", family("F", "", 0, "*1", "F.a", "[! x 0 F.rec{0} F]"), false},
		{"its recursor in an index", family("F", "", 0, "[! x 0 *1 *1]", "F.a", "[F F.rec{0}]"), false},
		{"its constructor in its type", family("F", "", 0, "[! x 0 F.a *1]", "F.a", "[F *0]"), false},
		{"its recursor in its type", family("F", "", 0, "[! x 0 F.rec{0} *1]"), false},
		{"a projection of it", family("F", "", 0, "*1", "F.a", "[! x 0 *0 [! y 0 [. F 0 #0] F]]"), false},
		{"a projection of it in an index", family("F", "", 0, "[! x 0 *1 *1]", "F.a", "[F [. F 0 *0]]"), false},
		{"a projection of it in its type", family("F", "", 0, "[! x 0 [. F 0 *0] *1]"), false},
	} {
		holdEnv(t, c.what, envOf(c.d), c.ok)
	}
}

func TestEnvOkEquality(t *testing.T) {
	other := func(change func(d *impl.Decl)) impl.Decl {
		d := eqFamily()
		change(&d)
		return d
	}
	for _, c := range []struct {
		what string
		d    impl.Decl
		ok   bool
	}{
		{"the equality", eqFamily(), true},
		{"other names and marks of binders", family("Eq", "u", 2, "[! B 1 *u [! x 2 #0 [! x 1 #1 *0]]]", "Eq.refl", "[! T 2 *u [! y 1 #0 [[[Eq{u} #1] #0] #0]]]"), true},
		{"levels that are the same", family("Eq", "u", 2, "[! A 0 *max(u,0) [! a 0 #0 [! b 0 #1 *imax(u,0)]]]", "Eq.refl", "[! A 0 *imax(0,u) [! a 0 #0 [[[Eq{u} #1] #0] #0]]]"), true},
		{"another Name", family("Eqq", "u", 2, eqType, "Eq.refl", "[! A 0 *u [! a 0 #0 [[[Eqq{u} #1] #0] #0]]]"), false},
		{"a Name within others", family("My.Eq", "u", 2, eqType, "Eq.refl", "[! A 0 *u [! a 0 #0 [[[My.Eq{u} #1] #0] #0]]]"), false},
		{"no Param", family("Eq", "", 2, "[! A 0 *1 [! a 0 #0 [! b 0 #1 *0]]]", "Eq.refl", "[! A 0 *1 [! a 0 #0 [[[Eq #1] #0] #0]]]"), false},
		{"two Params", family("Eq", "u v", 2, eqType, "Eq.refl", "[! A 0 *u [! a 0 #0 [[[Eq{u,v} #1] #0] #0]]]"), false},
		{"two Params, the other way", family("Eq", "v u", 2, eqType, "Eq.refl", "[! A 0 *u [! a 0 #0 [[[Eq{v,u} #1] #0] #0]]]"), false},
		{"another Param", family("Eq", "w", 2, "[! A 0 *w [! a 0 #0 [! b 0 #1 *0]]]", "Eq.refl", "[! A 0 *w [! a 0 #0 [[[Eq{w} #1] #0] #0]]]"), false},
		{"Fixed 1", other(func(d *impl.Decl) { d.Fixed = 1 }), false},
		{"Fixed 0", other(func(d *impl.Decl) { d.Fixed = 0 }), false},
		{"Fixed 3", other(func(d *impl.Decl) { d.Fixed, d.Ctors = 3, nil }), false},
		{"another sort", family("Eq", "u", 2, "[! A 0 *u [! a 0 #0 [! b 0 #1 *1]]]", "Eq.refl", eqRefl), false},
		{"another level", family("Eq", "u", 2, "[! A 0 *u+1 [! a 0 #0 [! b 0 #1 *0]]]", "Eq.refl", "[! A 0 *u+1 [! a 0 #0 [[[Eq{u} #1] #0] #0]]]"), false},
		{"another type of b", family("Eq", "u", 2, "[! A 0 *u [! a 0 #0 [! b 0 *0 *0]]]", "Eq.refl", eqRefl), false},
		{"another type of a", family("Eq", "u", 2, "[! A 0 *u [! a 0 *u [! b 0 #1 *0]]]", "Eq.refl", "[! A 0 *u [! a 0 *u [[[Eq{u} #1] #0] #0]]]"), false},
		{"one index more", family("Eq", "u", 2, "[! A 0 *u [! a 0 #0 [! b 0 #1 [! c 0 #2 *0]]]]", "Eq.refl", "[! A 0 *u [! a 0 #0 [[[[Eq{u} #1] #0] #0] #0]]]"), false},
		{"no constructor", other(func(d *impl.Decl) { d.Ctors = nil }), false},
		{"two constructors", other(func(d *impl.Decl) { d.Ctors = append(d.Ctors, impl.Ctor{Name: "Eq.again", Type: read(eqRefl)}) }), false},
		{"two constructors, the other way", other(func(d *impl.Decl) {
			d.Ctors = append([]impl.Ctor{{Name: "Eq.again", Type: read(eqRefl)}}, d.Ctors...)
		}), false},
		{"another constructor's Name", other(func(d *impl.Decl) { d.Ctors[0].Name = "refl" }), false},
		{"another constructor's Type", family("Eq", "u", 2, eqType, "Eq.refl", "[! A 0 *u [! a 0 #0 [! b 0 #1 [[[Eq{u} #2] #1] #0]]]]"), false},
		{"a constructor with a field", family("Eq", "u", 2, eqType, "Eq.refl", "[! A 0 *u [! a 0 #0 [! b 0 #1 [[[Eq{u} #2] #1] #1]]]]"), false},
		{"an axiom", declared(impl.KindAxiom, "Eq", "u", eqType, ""), false},
		{"a definition", declared(impl.KindDef, "Eq", "u", eqType, "[^ A 0 *u [^ a 0 #0 [^ b 0 #1 *0]]]"), false},
		{"a constructor of that name", family("Other", "u", 0, "*1", "Eq", "Other{u}"), false},
	} {
		holdEnv(t, c.what, envOf(c.d), true)
		holdEnv(t, c.what+", quotients behind", envOf(c.d, quotients()), c.ok)
		holdEnv(t, c.what+", quotients far behind", envOf(point("a"), c.d, natFamily(), quotients(), point("b")), c.ok)
		holdEnv(t, c.what+", quotients in front", envOf(quotients(), c.d), false)
	}
	holdEnv(t, "no equality", envOf(quotients()), false)
	holdEnv(t, "no equality but other things", envOf(natFamily(), point("e"), quotients()), false)
	holdEnv(t, "names of quotients without them", envOf(point("Quot"), point("Quot.mk"), point("Quot.sound"), eqFamily()), true)
}
