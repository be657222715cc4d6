package tests

import (
	"slices"
	"strconv"
	"strings"
	"testing"

	"loop.example/g00005/impl"
)

func holdNames(t *testing.T, what string, d impl.Decl, want string) {
	t.Helper()
	if got := impl.NamesOf(d); strings.Join(got, " ") != want || len(got) != len(strings.Fields(want)) {
		t.Errorf("%s: %q, not %s", what, got, want)
	}
}

func TestNamesOf(t *testing.T) {
	for _, c := range []struct {
		d    impl.Decl
		want string
	}{
		{axiom(), "a"}, {definition(), "d"}, {theorem(), "Logic.easy"},
		{natFamily(), "Nat Nat.zero Nat.succ Nat.rec"},
		{family("A.b", "", 0, "*0"), "A.b A.b.rec"},
		{family("F", "", 0, "*1", "z", "F", "y.x", "F", "a", "F"), "F z y.x a F.rec"},
		{quotients(), "Quot Quot.mk Quot.lift Quot.ind Quot.sound"},
		{declared(impl.KindAxiom, "Quot", "", "*1", ""), "Quot"},
		{family("Quot", "", 0, "*1", "Quot.mk", "Quot"), "Quot Quot.mk Quot.rec"},
		// Shaped, but not formed, and with constants that are nowhere.
		{family("F", "u", 0, "*u", "c", "nowhere", "d", "*1"), "F c d F.rec"},
		{family("F", "", 7, "F", "c", "[F F]"), "F c F.rec"},
	} {
		holdNames(t, c.d.Name, c.d, c.want)
	}
	many := family("F", "", 0, "*1")
	want := "F"
	for i := range impl.MaxCtors {
		many.Ctors = append(many.Ctors, impl.Ctor{Name: "c" + strconv.Itoa(i), Type: constant("F")})
		want += " c" + strconv.Itoa(i)
	}
	holdNames(t, "many constructors", many, want+" F.rec")
	many.Ctors = append(many.Ctors, impl.Ctor{Name: "more", Type: constant("F")})
	holdNames(t, "too many constructors", many, "")
	long := strings.Repeat("F", impl.MaxName-4)
	holdNames(t, "a long name", family(long, "", 0, "*1"), long+" "+long+".rec")
}

func TestNamesOfWrong(t *testing.T) {
	holdNames(t, "nothing", impl.Decl{}, "")
	for _, d := range oneOfEach()[1:] {
		for what, change := range map[string]func(d *impl.Decl){
			"Kind":   func(d *impl.Decl) { d.Kind = -1 },
			"Name":   func(d *impl.Decl) { d.Name = "a b" },
			"Params": func(d *impl.Decl) { d.Params = []string{"max"} },
			"Type":   func(d *impl.Decl) { d.Type = hole(0) },
			"Value":  func(d *impl.Decl) { d.Value = variable(0) },
			"Fixed":  func(d *impl.Decl) { d.Fixed = -1 },
			"Ctors":  func(d *impl.Decl) { d.Ctors = []impl.Ctor{{Name: d.Name, Type: prop()}} },
		} {
			changed := copyDecl(d)
			change(&changed)
			holdNames(t, what+" of kind "+strconv.Itoa(d.Kind), changed, "")
		}
	}
}

func TestFindByHand(t *testing.T) {
	e := sampleEnv()
	for _, c := range []struct {
		name             string
		kind, decl, ctor int
		params, typ      string
	}{
		{"Nat", impl.InfoFamily, 0, 0, "", "*1"},
		{"Nat.zero", impl.InfoCtor, 0, 0, "", "Nat"},
		{"Nat.succ", impl.InfoCtor, 0, 1, "", "[! n 0 Nat Nat]"},
		{"Nat.rec", impl.InfoRecursor, 0, 0, "v", "[! C 0 [! t 0 Nat *v] [! zero 0 [#0 Nat.zero] [! succ 0 [! n 0 Nat [! ih 0 [#2 #0] [#3 [Nat.succ #1]]]] [! t 0 Nat [#3 #0]]]]]"},
		{"some", impl.InfoAxiom, 1, 0, "", "Nat"},
		{"two", impl.InfoDef, 2, 0, "", "Nat"},
		{"four", impl.InfoDef, 3, 0, "", "Nat"},
		{"Eq", impl.InfoFamily, 4, 0, "u", eqType},
		{"Eq.refl", impl.InfoCtor, 4, 0, "u", eqRefl},
		{"Eq.rec", impl.InfoRecursor, 4, 0, "u", "[! A 0 *u [! a 0 #0 [! C 0 [! b 0 #1 [! t 0 [[[Eq{u} #2] #1] #0] *0]] [! refl 0 [[#0 #1] [[Eq.refl{u} #2] #1]] [! b 0 #3 [! t 0 [[[Eq{u} #4] #3] #0] [[#3 #1] #0]]]]]]]"},
		{"easy", impl.InfoTheorem, 5, 0, "", "[[[Eq{1} Nat] four] four]"},
		{"Quot", impl.InfoQuot, 6, 0, "u", written(quotTable()[0].Type)},
		{"Quot.mk", impl.InfoMk, 6, 0, "u", written(quotTable()[1].Type)},
		{"Quot.lift", impl.InfoLift, 6, 0, "u v", written(quotTable()[2].Type)},
		{"Quot.ind", impl.InfoInd, 6, 0, "u", written(quotTable()[3].Type)},
		{"Quot.sound", impl.InfoSound, 6, 0, "u", written(quotTable()[4].Type)},
		{"Prod", impl.InfoFamily, 7, 0, "u v", "[! A 0 *u+1 [! B 0 *v+1 *max(u,v)+1]]"},
		{"Prod.mk", impl.InfoCtor, 7, 0, "u v", "[! A 1 *u+1 [! B 1 *v+1 [! a 0 #1 [! b 0 #1 [[Prod{u,v} #3] #2]]]]]"},
		{"Prod.rec", impl.InfoRecursor, 7, 0, "v1 u v", "[! A 0 *u+1 [! B 0 *v+1 [! C 0 [! t 0 [[Prod{u,v} #1] #0] *v1] " +
			"[! mk 0 [! a 0 #2 [! b 0 #2 [#2 [[[[Prod.mk{u,v} #4] #3] #1] #0]]]] [! t 0 [[Prod{u,v} #3] #2] [#2 #0]]]]]]"},
		{"id", impl.InfoDef, 8, 0, "u", "[! A 1 *u [! a 0 #0 #1]]"},
		{"Vec.cons", impl.InfoCtor, 9, 1, "u", written(vecFamily().Ctors[1].Type)},
		{"many", impl.InfoAxiom, 10, 0, "a b c d e f", "[Vec{max(a,b)} *imax(c,d)]"},
		{"Six.rec", impl.InfoRecursor, 11, 0, "v a b c d e f", "[! C 0 [! t 0 Six{a,b,c,d,e,f} *v] [! mk 0 [! x 0 *a [#1 [Six.mk{a,b,c,d,e,f} #0]]] [! t 0 Six{a,b,c,d,e,f} [#2 #0]]]]"},
	} {
		info, ok := impl.Find(e, c.name)
		want := impl.Info{Kind: c.kind, Decl: c.decl, Ctor: c.ctor, Params: strings.Fields(c.params), Type: read(c.typ)}
		if !ok || !equalInfos(info, want) {
			t.Errorf("%s: %v, %v with %s", c.name, ok, info, written(info.Type))
		}
	}
	holdConstants(t, "one of all", e)
}

func TestFindNothing(t *testing.T) {
	e := sampleEnv()
	for _, name := range []string{"", ".", "Nat.", "nat", "Nat.rec.rec", "zero", "succ", "Quot.rec", "Quot.eq", "some.rec", "two.rec", "u", "C", "\x00", strings.Repeat("n", 1000)} {
		holdAbsent(t, "one of all", e, name, impl.CodeConst)
		holdAbsent(t, "none", impl.Env{}, name, impl.CodeConst)
	}
	for _, name := range []string{"Quot", "Quot.mk", "Quot.lift", "Quot.ind", "Quot.sound"} {
		holdAbsent(t, "no quotients", envOf(eqFamily()), name, impl.CodeConst)
	}
	holdBroken(t, "one declaration twice", behind(e, e.Decls[3]))
	holdBroken(t, "quotients alone", envOf(natFamily(), quotients()))
	holdBroken(t, "a broken one behind", behind(e, impl.Decl{}))
	holdBroken(t, "a broken one in front", envOf(slices.Insert(slices.Clone(e.Decls), 0, impl.Decl{})...))
	holdBroken(t, "too many", envOf(points(impl.MaxDecls + 1)[:impl.MaxDecls+1]...))
}

func levelsOf(texts ...string) []impl.Level {
	var list []impl.Level
	for _, text := range texts {
		l, code := impl.ParseLevel(text)
		if code != 0 {
			panic(text + " is no level")
		}
		list = append(list, l)
	}
	return list
}

func TestConstTypeByHand(t *testing.T) {
	e := sampleEnv()
	for _, c := range []struct {
		name, levels, typ string
	}{
		{"Nat", "", "*1"}, {"Nat.zero", "", "Nat"}, {"some", "", "Nat"}, {"two", "", "Nat"}, {"easy", "", "[[[Eq{1} Nat] four] four]"},
		{"id", "imax(u,w)", "[! A 1 *imax(u,w) [! a 0 #0 #1]]"},
		{"id", "u+1", "[! A 1 *u+1 [! a 0 #0 #1]]"},
		{"Eq.refl", "3", "[! A 0 *3 [! a 0 #0 [[[Eq{3} #1] #0] #0]]]"},
		{"Prod", "v u", "[! A 0 *v+1 [! B 0 *u+1 *max(v,u)+1]]"},
		{"Prod", "0 1", "[! A 0 *1 [! B 0 *2 *max(0,1)+1]]"},
		{"Prod.rec", "u v v1", "[! A 0 *v+1 [! B 0 *v1+1 [! C 0 [! t 0 [[Prod{v,v1} #1] #0] *u] " +
			"[! mk 0 [! a 0 #2 [! b 0 #2 [#2 [[[[Prod.mk{v,v1} #4] #3] #1] #0]]]] [! t 0 [[Prod{v,v1} #3] #2] [#2 #0]]]]]]"},
		{"many", "f e d c b a", "[Vec{max(f,e)} *imax(d,c)]"},
		{"Quot", "w", "[! A 0 *w+1 [! r 0 [! a 0 #0 [! b 0 #1 *0]] *w+1]]"},
		{"Quot.mk", "2", "[! A 0 *3 [! r 0 [! a 0 #0 [! b 0 #1 *0]] [! a 0 #1 [[Quot{2} #2] #1]]]]"},
		{"Quot.lift", "v max(u,v)", "[! A 0 *v+1 [! r 0 [! a 0 #0 [! b 0 #1 *0]] [! B 0 *max(u,v) [! f 0 [! a 0 #2 #1] " +
			"[! h 0 [! a 0 #3 [! b 0 #4 [! p 0 [[#4 #1] #0] [[[Eq{max(u,v)} #4] [#3 #2]] [#3 #1]]]]] [! q 0 [[Quot{v} #4] #3] #3]]]]]]"},
		{"Quot.ind", "0", "[! A 0 *1 [! r 0 [! a 0 #0 [! b 0 #1 *0]] [! B 0 [! q 0 [[Quot{0} #1] #0] *0] [! h 0 [! a 0 #2 [#1 [[[Quot.mk{0} #3] #2] #0]]] [! q 0 [[Quot{0} #3] #2] [#2 #0]]]]]]"},
		{"Quot.sound", "u+1", "[! A 0 *u+2 [! r 0 [! a 0 #0 [! b 0 #1 *0]] [! a 0 #1 [! b 0 #2 [! p 0 [[#2 #1] #0] " +
			"[[[Eq{u+2} [[Quot{u+1} #4] #3]] [[[Quot.mk{u+1} #4] #3] #2]] [[[Quot.mk{u+1} #4] #3] #1]]]]]]]"},
		{"Six.rec", "0 1 2 3 4 5 6", "[! C 0 [! t 0 Six{1,2,3,4,5,6} *0] [! mk 0 [! x 0 *1 [#1 [Six.mk{1,2,3,4,5,6} #0]]] [! t 0 Six{1,2,3,4,5,6} [#2 #0]]]]"},
	} {
		typ, code := impl.ConstType(e, c.name, levelsOf(strings.Fields(c.levels)...))
		if code != 0 || written(typ) != c.typ {
			t.Errorf("%s{%s}: code %d with\n%s, not\n%s", c.name, c.levels, code, written(typ), c.typ)
		}
	}
}

func holdConstCode(t *testing.T, e impl.Env, name string, levels []impl.Level, want int) {
	t.Helper()
	typ, code := impl.ConstType(e, name, levels)
	if code != want || (code != 0) != (len(typ.Nodes) == 0) {
		t.Errorf("%s with %d levels: code %d with %d nodes, not code %d", name, len(levels), code, len(typ.Nodes), want)
	}
}

func TestConstTypeCodes(t *testing.T) {
	t.Parallel()
	e := sampleEnv()
	broken := behind(e, quotients())
	table := slowTable(e)
	for name, info := range table {
		count := len(info.Params)
		for n := range 9 {
			want := impl.CodeConst
			if n == count {
				want = 0
			}
			holdConstCode(t, e, name, slices.Repeat(levelsOf("u"), n), want)
		}
		for i, bad := range wrongLevels() {
			for _, levels := range [][]impl.Level{{bad}, {zero(), bad}, {bad, zero(), zero()}} {
				holdConstCode(t, e, name, levels, impl.CodeInput)
			}
			if i == 0 && count > 0 {
				holdConstCode(t, e, name, append(slices.Repeat(levelsOf("u"), count-1), bad), impl.CodeInput)
			}
		}
		holdConstCode(t, broken, name, slices.Repeat(levelsOf("u"), count), impl.CodeInput)
		holdConstCode(t, broken, name, slices.Repeat(levelsOf("u"), count+1), impl.CodeInput)
	}
	holdConstCode(t, e, "nowhere", nil, impl.CodeConst)
	holdConstCode(t, e, "nowhere", levelsOf("0"), impl.CodeConst)
	holdConstCode(t, e, "nowhere", []impl.Level{{}}, impl.CodeInput)
	holdConstCode(t, e, "", []impl.Level{zero(), {}}, impl.CodeInput)
	holdConstCode(t, broken, "nowhere", nil, impl.CodeInput)
	holdConstCode(t, broken, "nowhere", []impl.Level{{}}, impl.CodeInput)
	holdConstCode(t, e, "id", slices.Repeat(levelsOf("0"), 100000), impl.CodeConst)
}

func TestConstTypeSize(t *testing.T) {
	e := behind(sampleEnv(), declared(impl.KindAxiom, "wide", "u", "*max(u,u)", ""), declared(impl.KindAxiom, "plain", "u", "*0", ""), declared(impl.KindAxiom, "two.more", "u v", "*max(u,v)", ""))
	full := succ(zero(), impl.MaxLevel-1)
	for _, c := range []struct {
		name   string
		levels []impl.Level
		want   int
	}{
		{"id", []impl.Level{full}, 0},
		{"plain", []impl.Level{full}, 0},
		{"Quot", []impl.Level{full}, impl.CodeSize},
		{"Quot", []impl.Level{succ(zero(), impl.MaxLevel-2)}, 0},
		{"Quot.lift", []impl.Level{zero(), full}, 0},
		{"Quot.lift", []impl.Level{full, zero()}, impl.CodeSize},
		{"wide", []impl.Level{succ(zero(), (impl.MaxLevel-1)/2-1)}, 0},
		{"wide", []impl.Level{succ(zero(), (impl.MaxLevel+1)/2)}, impl.CodeSize},
		// Each has as many parameters as it may have, but both together have
		// more.
		{"two.more", []impl.Level{chain(impl.LevelMax, "a", "b", "c"), chain(impl.LevelMax, "d", "e", "f")}, 0},
		{"two.more", []impl.Level{chain(impl.LevelMax, "a", "b", "c"), chain(impl.LevelMax, "d", "e", "f", "g")}, impl.CodeSize},
		{"two.more", []impl.Level{full}, impl.CodeConst},
		{"wide", []impl.Level{full, full}, impl.CodeConst},
		{"wide", []impl.Level{succ(zero(), impl.MaxLevel)}, impl.CodeInput},
	} {
		holdConstCode(t, e, c.name, c.levels, c.want)
	}
}
