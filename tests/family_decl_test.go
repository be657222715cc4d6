package tests

import (
	"slices"
	"strconv"
	"strings"
	"testing"

	"loop.example/g00005/impl"
)

func TestFamilyConstants(t *testing.T) {
	got := []int{impl.KindAxiom, impl.KindDef, impl.KindTheorem, impl.KindFamily, impl.KindQuot, impl.MaxCtors}
	if !slices.Equal(got, []int{1, 2, 3, 4, 5, 20}) {
		t.Errorf("%v", got)
	}
}

func axiom() impl.Decl {
	return declared(impl.KindAxiom, "a", "u", "*u", "")
}

func definition() impl.Decl {
	return declared(impl.KindDef, "d", "u", "*u+1", "*u")
}

func theorem() impl.Decl {
	return declared(impl.KindTheorem, "Logic.easy", "u v", "[! A 0 *u A]", "[^ a 0 *v #0]")
}

func quotients() impl.Decl {
	return impl.Decl{Kind: impl.KindQuot, Name: "Quot"}
}

// oneOfEach has a shaped declaration of each kind, at the place of its Kind.
func oneOfEach() []impl.Decl {
	return []impl.Decl{{}, axiom(), definition(), theorem(), listFamily(), quotients()}
}

func holdShaped(t *testing.T, what string, d impl.Decl, want bool) {
	t.Helper()
	before := copyDecl(d)
	if impl.DeclOk(d) != want {
		t.Errorf("%s: shaped is %v", what, !want)
	}
	if !equalDecls(d, before) {
		t.Errorf("%s: the declaration was changed", what)
	}
	if want && d.Kind == impl.KindFamily {
		if code, _ := impl.FamilyForm(d); code == impl.CodeInput {
			t.Errorf("%s: a shaped family has CodeInput", what)
		}
		return
	}
	holdForm(t, what, d, impl.CodeInput, 0)
	holdUnformed(t, what, d)
}

func TestDeclOkKinds(t *testing.T) {
	for kind, d := range oneOfEach() {
		holdShaped(t, "kind "+strconv.Itoa(kind), d, kind > 0)
		for other := -1; other <= 6; other++ {
			changed := copyDecl(d)
			changed.Kind = other
			same := kind == other || min(kind, other) == impl.KindDef && max(kind, other) == impl.KindTheorem
			family := kind == impl.KindAxiom && other == impl.KindFamily
			holdShaped(t, "kind "+strconv.Itoa(kind)+" as "+strconv.Itoa(other), changed, kind > 0 && (same || family))
		}
	}
}

func TestDeclOkNames(t *testing.T) {
	long := strings.Repeat("n", impl.MaxName-4)
	parts := strings.Repeat("n.", (impl.MaxName-4)/2)
	for _, c := range []struct {
		name string
		ok   bool
	}{
		{long, true}, {long + "n", false}, {long + "nnnn", false}, {long + "nnnnn", false},
		{parts[:len(parts)-1], true}, {parts + "n", false}, {parts, false},
		{"", false}, {".", false}, {"a.", false}, {"1", false}, {"a b", false}, {"a.1", false},
		{"max", true}, {"imax", true}, {"a'.b_", true}, {"Quot", true}, {"List.rec", true},
	} {
		for kind, d := range oneOfEach()[:5] {
			if kind == 0 {
				continue
			}
			d.Name = c.name
			holdShaped(t, c.name+" for kind "+strconv.Itoa(kind), d, c.ok)
		}
		quot := quotients()
		quot.Name = c.name
		holdShaped(t, c.name+" for the quotients", quot, c.name == "Quot")
	}
}

func TestDeclOkParams(t *testing.T) {
	long := strings.Repeat("p", impl.MaxName)
	for _, c := range []struct {
		params []string
		ok     bool
	}{
		{nil, true}, {[]string{}, true}, {[]string{"a"}, true},
		{[]string{"a", "b", "c", "d", "e", "f"}, true},
		{[]string{"a", "b", "c", "d", "e", "f", "g"}, false},
		{[]string{"a", "b", "c", "d", "e", "f", "a"}, false},
		{[]string{"a", "a"}, false}, {[]string{"a", "b", "a"}, false}, {[]string{"a", "b", "b"}, false},
		{[]string{"max"}, false}, {[]string{"imax"}, false}, {[]string{"a", "imax"}, false}, {[]string{"maxi", "imax'"}, true},
		{[]string{"a.b"}, false}, {[]string{""}, false}, {[]string{"1"}, false}, {[]string{"a", " "}, false},
		{[]string{long}, true}, {[]string{long + "p"}, false},
		{slices.Repeat([]string{"a"}, 100000), false},
	} {
		for kind, d := range oneOfEach() {
			if kind == 0 {
				continue
			}
			plain := impl.Decl{Kind: kind, Name: "Quot", Params: c.params, Type: prop()}
			if d.Value.Nodes != nil {
				plain.Value = prop()
			}
			ok := c.ok
			if kind == impl.KindQuot {
				plain.Type = impl.Term{}
				ok = len(c.params) == 0
			}
			holdShaped(t, strings.Join(c.params[:min(len(c.params), 7)], " ")+" for kind "+strconv.Itoa(kind), plain, ok)
		}
	}
}

// wrongDeclTerms can't stand by themselves where u is the one parameter.
func wrongDeclTerms() []impl.Term {
	return append(wrongTerms(),
		variable(0), app(prop(), variable(3)), lam("x", 0, prop(), variable(1)), pi("x", 0, variable(0), prop()),
		hole(0), hole(7), app(prop(), hole(1)), pi("x", 0, prop(), hole(1)), proj("P", 0, hole(0)),
		universe(param("v")), universe(pair(impl.LevelImax, param("u"), param("v"))), constant("c", param("u"), param("w")),
		pi("x", 0, constant("c", param("u"), zero(), succ(param("v"), 2)), universe(param("u"))),
	)
}

func TestDeclOkTerms(t *testing.T) {
	t.Parallel()
	good := []impl.Term{
		prop(), universe(param("u")), constant("c", param("u"), pair(impl.LevelMax, param("u"), zero())), lam("x", 2, prop(), variable(0)),
		let("x", prop(), prop(), variable(0)), proj("P", 3, constant("c")), spread(impl.MaxNodes/2-1, prop()),
	}
	for i, x := range append(slices.Clone(good), wrongDeclTerms()...) {
		what := "term " + strconv.Itoa(i)
		ok := i < len(good)
		for _, kind := range []int{impl.KindAxiom, impl.KindFamily} {
			holdShaped(t, what+" as a type", impl.Decl{Kind: kind, Name: "d", Params: []string{"u"}, Type: x}, ok)
			holdShaped(t, what+" as a value", impl.Decl{Kind: kind, Name: "d", Params: []string{"u"}, Type: prop(), Value: x}, len(x.Nodes) == 0)
		}
		for _, kind := range []int{impl.KindDef, impl.KindTheorem} {
			holdShaped(t, what+" as a type", impl.Decl{Kind: kind, Name: "d", Params: []string{"u"}, Type: x, Value: prop()}, ok)
			holdShaped(t, what+" as a value", impl.Decl{Kind: kind, Name: "d", Params: []string{"u"}, Type: prop(), Value: x}, ok)
		}
		for place := range 3 {
			d := family("F", "u", 0, "*1", "a", "F{u}", "b", "F{u}", "c", "F{u}")
			d.Ctors[place].Type = x
			holdShaped(t, what+" as a constructor's", d, ok)
		}
		holdShaped(t, what+" as the quotients'", impl.Decl{Kind: impl.KindQuot, Name: "Quot", Type: x}, len(x.Nodes) == 0)
		holdShaped(t, what+" as the quotients' value", impl.Decl{Kind: impl.KindQuot, Name: "Quot", Value: x}, len(x.Nodes) == 0)
	}
}

func TestDeclOkFixed(t *testing.T) {
	for _, fixed := range []int{-1 << 63, -1, 0, 1, 50, 51, 1 << 62} {
		for kind, d := range oneOfEach() {
			if kind == 0 {
				continue
			}
			d.Fixed = fixed
			ok := fixed == 0 || kind == impl.KindFamily && fixed > 0 && fixed <= 50
			holdShaped(t, "Fixed "+strconv.Itoa(fixed)+" for kind "+strconv.Itoa(kind), d, ok)
		}
	}
}

func TestDeclOkCtors(t *testing.T) {
	many := func(count int) impl.Decl {
		d := family("F", "", 0, "*1")
		for i := range count {
			d.Ctors = append(d.Ctors, impl.Ctor{Name: "c" + strconv.Itoa(i), Type: constant("F")})
		}
		return d
	}
	for count, ok := range map[int]bool{0: true, 1: true, impl.MaxCtors: true, impl.MaxCtors + 1: false, 100000: false} {
		holdShaped(t, strconv.Itoa(count)+" constructors", many(count), ok)
	}
	for kind, d := range oneOfEach() {
		if kind != impl.KindFamily {
			d.Ctors = many(1).Ctors
			holdShaped(t, "a constructor for kind "+strconv.Itoa(kind), d, false)
		}
	}
	for name, ok := range map[string]bool{
		"c1": false, "c5": false, "F": false, "F.rec": false, "F.re": true, "F.F": true, "F.rec.rec": true, "rec": true, "f": true, "G.rec": true,
		strings.Repeat("n", impl.MaxName): true, strings.Repeat("n", impl.MaxName+1): false,
		"": false, "F.": false, "1": false, "max": true, "a.b.c": true,
	} {
		for _, place := range []int{0, 3, 7} {
			d := many(8)
			if d.Ctors[place].Name == name {
				continue
			}
			d.Ctors[place].Name = name
			holdShaped(t, "a constructor "+name, d, ok)
		}
	}
	long := many(1)
	long.Name = strings.Repeat("F", impl.MaxName-4)
	long.Ctors[0] = impl.Ctor{Name: long.Name + ".rec", Type: constant(long.Name)}
	holdShaped(t, "the recursor of a long name", long, false)
	long.Ctors[0].Name = long.Name + ".rek"
	holdShaped(t, "a constructor of a long name", long, true)
}
