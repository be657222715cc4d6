package tests

import (
	"math/rand"
	"slices"
	"strconv"
	"strings"
	"testing"

	"loop.example/g00005/impl"
)

func holdSum(t *testing.T, text string, want int) {
	t.Helper()
	if got := impl.SumOf([]byte(text)); got != want {
		t.Errorf("%q: %d, not %d", short(text), got, want)
	}
	if got := slowSum(text); got != want {
		t.Errorf("%q: by the slow way %d, not %d", short(text), got, want)
	}
}

func TestSumOf(t *testing.T) {
	if impl.SumOf(nil) != 0 || impl.SumOf([]byte{}) != 0 {
		t.Errorf("no text has a sum")
	}
	for _, c := range []struct {
		text string
		want int
	}{
		{"", 0},
		{"\x00", 1},
		{"\n", 11},
		{" ", 33},
		{"a", 98},
		{"\xfe", 255},
		{"\xff", 256},
		{"\x00\x00", 258},
		{"ab", 25285},
		{"ba", 25541},
		{"\xff\xff", 66048},
		{"abc", 498327},          // 6498345 less 6 times 1000003
		{"\xff\xff\xff", 974544}, // 16974592 less 16 times 1000003
		{"\x0e\x23\x0e", 1000002},
		{"\x0e\x23\x0f", 0}, // 1000003 itself
		{"\x0e\x23\x10", 1},
		{"\x00\x0e\x23\x0f", 257 * 257 * 257 % 1000003},
		{"\x0e\x23\x0f\x00", 1},
	} {
		holdSum(t, c.text, c.want)
	}
}

func TestSumOfRandomTexts(t *testing.T) {
	r := rand.New(rand.NewSource(121))
	for i := range 2000 {
		text := make([]byte, r.Intn(2+i))
		r.Read(text)
		holdSum(t, string(text), slowSum(string(text)))
		if got := impl.SumOf(text); got < 0 || got >= 1000003 {
			t.Errorf("%q: %d", text, got)
		}
	}
	// far longer than any text of an environment
	holdSum(t, strings.Repeat("\xff", 3000000), slowSum(strings.Repeat("\xff", 3000000)))
	holdSum(t, strings.Repeat("\x00", 3000000), slowSum(strings.Repeat("\x00", 3000000)))
}

// Another byte at one place, and another place for two bytes: another sum.
func TestSumOfChangedTexts(t *testing.T) {
	text := []byte(natText)
	want := impl.SumOf(text)
	for i, was := range text {
		for b := range 256 {
			text[i] = byte(b)
			if got := impl.SumOf(text); (got == want) != (byte(b) == was) {
				t.Errorf("byte %d as %d: %d", i, b, got)
			}
		}
		text[i] = was
		if i > 0 && was != text[i-1] {
			text[i], text[i-1] = text[i-1], was
			if impl.SumOf(text) == want {
				t.Errorf("bytes %d and %d the other way round have the same sum", i-1, i)
			}
			text[i], text[i-1] = was, text[i]
		}
	}
}

// Each text here is written by hand, but for the number in its last line.
func TestExport(t *testing.T) {
	nat := []impl.Decl{natFamily()}
	eq := []impl.Decl{eqFamily()}
	of := func(front []impl.Decl, more ...impl.Decl) []impl.Decl { return slices.Concat(front, more) }
	for _, c := range []struct {
		decls []impl.Decl
		text  string
	}{
		{nil, ""},
		{nat, natText},
		{eq, eqText},
		{of(nil, newAxiom("*0")), "axiom new - *0\n"},
		{of(nat, newAxiom("Nat")), natText + "axiom new - Nat\n"},
		{of(nat, newAxiom("[! n 0 Nat *0]")), natText + "axiom new - [! n 0 Nat *0]\n"},
		{of(nil, declared(impl.KindAxiom, "a.b'", "u", "*u", "")), "axiom a.b' u *u\n"},
		{of(nil, declared(impl.KindAxiom, "_", "u v", "[! A 1 *max(u,v)+1 *imax(v,u)]", "")), "axiom _ u,v [! A 1 *max(u,v)+1 *imax(v,u)]\n"},
		{of(nil, declared(impl.KindAxiom, "all", "f e d c b a", "*a", "")), "axiom all f,e,d,c,b,a *a\n"},
		{of(nat, newDef("Nat", "Nat.zero")), natText + "def new - Nat Nat.zero\n"},
		{of(nat, newDef("*1", "Nat")), natText + "def new - *1 Nat\n"},
		{of(nil, declared(impl.KindDef, "id", "u", "[! A 1 *u [! a 0 #0 #1]]", "[^ A 1 *u [^ a 0 #0 #0]]")),
			"def id u [! A 1 *u [! a 0 #0 #1]] [^ A 1 *u [^ a 0 #0 #0]]\n"},
		{of(nil, declared(impl.KindDef, "up", "u v", "*max(u,v)+1", "*max(u,v)")), "def up u,v *max(u,v)+1 *max(u,v)\n"},
		{of(slices.Concat(nat, eq), newTheorem("[[[Eq{1} Nat] Nat.zero] Nat.zero]", "[[Eq.refl{1} Nat] Nat.zero]")),
			natText + eqText + "theorem new - [[[Eq{1} Nat] Nat.zero] Nat.zero] [[Eq.refl{1} Nat] Nat.zero]\n"},
		{of(eq, declared(impl.KindTheorem, "same", "w", "[! A 2 *w [! a 0 #0 [[[Eq{w} #1] #0] #0]]]", "[^ A 2 *w [^ a 0 #0 [[Eq.refl{w} #1] #0]]]")),
			eqText + "theorem same w [! A 2 *w [! a 0 #0 [[[Eq{w} #1] #0] #0]]] [^ A 2 *w [^ a 0 #0 [[Eq.refl{w} #1] #0]]]\n"},
		{of(nil, family("False", "", 0, "*0")), "family False - 0 *0\n"},
		{of(nil, family("T", "u v w", 0, "*max(u,max(v,w))+1")), "family T u,v,w 0 *max(u,max(v,w))+1\n"},
		{of(nil, family("Unit", "", 0, "*1", "star", "Unit")), "family Unit - 0 *1\nctor star Unit\n"},
		{of(nil, listFamily()), "family List u 1 [! A 1 *u+1 *u+1]\nctor List.nil [! B 0 *u+1 [List{u} #0]]\n" +
			"ctor List.cons [! A 2 *u+1 [! head 1 #0 [! tail 2 [List{u} #1] [List{u} #2]]]]\n"},
		{of(nil, prodFamily()), "family Prod u,v 2 [! A 0 *u+1 [! B 0 *v+1 *max(u,v)+1]]\n" +
			"ctor Prod.mk [! A 1 *u+1 [! B 1 *v+1 [! a 0 #1 [! b 0 #1 [[Prod{u,v} #3] #2]]]]]\n"},
		{of(eq, quotients()), eqText + "quot\n"},
		{of(slices.Concat(eq, []impl.Decl{quotients()}), natFamily(), newAxiom("Nat")), eqText + "quot\n" + natText + "axiom new - Nat\n"},
		{of(nat, family("F", "", 0, "*1"), family("G", "", 0, "*1", "g", "G"), newAxiom("F")),
			natText + "family F - 0 *1\nfamily G - 0 *1\nctor g G\naxiom new - F\n"},
		{of(nil, prodFamily(), newDef("[! p 0 [[Prod{1,1} *1] *1] *1]", "[^ p 0 [[Prod{1,1} *1] *1] [= q *1 [. Prod 1 #0] #0]]")),
			"family Prod u,v 2 [! A 0 *u+1 [! B 0 *v+1 *max(u,v)+1]]\n" +
				"ctor Prod.mk [! A 1 *u+1 [! B 1 *v+1 [! a 0 #1 [! b 0 #1 [[Prod{u,v} #3] #2]]]]]\n" +
				"def new - [! p 0 [[Prod{1,1} *1] *1] *1] [^ p 0 [[Prod{1,1} *1] *1] [= q *1 [. Prod 1 #0] #0]]\n"},
	} {
		e := envOf(c.decls...)
		holdExport(t, "by hand", e, summed(c.text))
		holdImported(t, summed(c.text), 1000, e)
		holdImport(t, summed(c.text), 1000, 0, 0)
		if slowExport(e) != summed(c.text) {
			t.Errorf("the tests write %q for %q", slowExport(e), summed(c.text))
		}
	}
	// last lines that were counted by hand
	holdExport(t, "none", impl.Env{}, "sum 0\n")
	holdExport(t, "none", envOf([]impl.Decl{}...), "sum 0\n")
	holdImported(t, "sum 0\n", 0, impl.Env{})
	holdExport(t, "one", envOf(declared(impl.KindAxiom, "A", "", "*1", "")), "axiom A - *1\nsum 204596\n")
	holdExport(t, "numbers", envOf(nat...), natText+"sum 862268\n")
}

func TestExportOfManyConstructors(t *testing.T) {
	d := family("F", "", 0, "*1")
	text := "family F - 0 *1\n"
	for i := range impl.MaxCtors {
		name := "c" + strconv.Itoa(i)
		d.Ctors = append(d.Ctors, impl.Ctor{Name: name, Type: constant("F")})
		text += "ctor " + name + " F\n"
	}
	holdExport(t, "many constructors", envOf(d), summed(text))
	holdImported(t, summed(text), 1000, envOf(d))
	holdImport(t, summed(text+"ctor more F\n"), 1000, 1, impl.CodeInput)
	holdImport(t, summed("axiom a - *1\n"+text+"ctor more F\nwhat\n"), 1000, 24, impl.CodeText)
}

// As many declarations as an environment may have, and one more.
func TestExportOfManyDeclarations(t *testing.T) {
	decls := manyAxioms(impl.MaxDecls + 1)
	text := ""
	for i := range impl.MaxDecls {
		text += "axiom a" + strconv.Itoa(i) + " - *1\n"
	}
	holdExport(t, "300", envOf(decls[:impl.MaxDecls]...), summed(text))
	holdImported(t, summed(text), 0, envOf(decls[:impl.MaxDecls]...))
	holdNoExport(t, "301", envOf(decls...))
	holdImport(t, summed(text+"axiom a300 - *1\n"), 0, 301, impl.CodeSize)
	holdImport(t, summed(text+"axiom a300 - nothing\n"), 0, 301, impl.CodeSize)
	holdImport(t, summed(text+"axiom 300 - nothing\n"), 0, 301, impl.CodeInput)
	holdImport(t, summed(text+"axiom a300 - *1\nwhat\n"), 0, 302, impl.CodeText)
	// each in its place, for any number of them
	for count := range 70 {
		holdExport(t, strconv.Itoa(count), envOf(decls[:count]...), slowExport(envOf(decls[:count]...)))
	}
}

func TestExportOfWrongEnvironments(t *testing.T) {
	for what, e := range map[string]impl.Env{
		"no declaration":          envOf(impl.Decl{}),
		"a name twice":            envOf(newAxiom("*1"), newAxiom("*1")),
		"the other way round":     envOf(newAxiom("Nat"), natFamily()),
		"nothing":                 envOf(newAxiom("nothing")),
		"quotients alone":         envOf(quotients()),
		"a family without a form": envOf(family("F", "", 0, "*1", "c", "*1")),
		"too many parameters":     envOf(family("F", "", 1, "*1")),
		"a hole":                  envOf(newAxiom("?0")),
		"a variable":              envOf(newAxiom("#0")),
		"a level":                 envOf(newAxiom("*u")),
		"a kind":                  envOf(impl.Decl{Kind: 6, Name: "a", Type: prop()}),
		"a kind of none":          envOf(impl.Decl{Name: "a", Type: prop()}),
		"a name":                  envOf(declared(impl.KindAxiom, "a b", "", "*1", "")),
		"no name":                 envOf(declared(impl.KindAxiom, "", "", "*1", "")),
		"a param":                 envOf(declared(impl.KindAxiom, "a", "-", "*1", "")),
		"no term":                 envOf(impl.Decl{Kind: impl.KindAxiom, Name: "a"}),
	} {
		holdNoExport(t, what, e)
		holdNoExport(t, what, behind(e, natFamily()))
		holdNoExport(t, what, behind(envOf(declared(impl.KindAxiom, "first", "", "*1", "")), e.Decls...))
	}
	for _, x := range wrongTerms() {
		holdNoExport(t, "a wrong term", envOf(impl.Decl{Kind: impl.KindAxiom, Name: "a", Type: x}))
		holdNoExport(t, "a wrong term", envOf(impl.Decl{Kind: impl.KindDef, Name: "a", Type: prop(), Value: x}))
	}
}

// What is valid has a text, though Add would not take it: Import tells its code.
func TestExportOfWhatAddRefuses(t *testing.T) {
	for _, c := range []struct {
		d    impl.Decl
		text string
		code int
	}{
		{newAxiom("Nat.zero"), "axiom new - Nat.zero\n", impl.CodeSort},
		{newDef("Nat", "Nat"), "def new - Nat Nat\n", impl.CodeArg},
		{newTheorem("Nat", "Nat.zero"), "theorem new - Nat Nat.zero\n", impl.CodeProp},
		{newDef("Nat", "[Nat Nat]"), "def new - Nat [Nat Nat]\n", impl.CodeFun},
		{family("F", "", 0, "*1", "c", "[! x 0 *1 F]"), "family F - 0 *1\nctor c [! x 0 *1 F]\n", impl.CodeUniverse},
	} {
		holdExport(t, c.text, envOf(natFamily(), c.d), summed(natText+c.text))
		holdImport(t, summed(natText+c.text), 1000, 4, c.code)
	}
}
