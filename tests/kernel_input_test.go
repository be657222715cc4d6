package tests

import (
	"strconv"
	"strings"
	"testing"

	"loop.example/g00005/impl"
)

// holdInput is for a question that is not as the chapter wants it.
func (q kernelAsk) holdInput(t *testing.T, what string, e impl.Env) {
	t.Helper()
	for _, fuel := range []int{-1, 0, 1, 40, impl.MaxFuel, impl.MaxFuel + 1, -1 << 62, 1 << 62} {
		if got := q.ask(t, e, fuel); got != (kernelAnswer{0, impl.CodeInput}) {
			t.Errorf("%s: %s\nfuel %d: %v", what, q.text(), fuel, got)
		}
	}
}

// manyAxioms are so many, of the names a0, a1, ..
func manyAxioms(count int) []impl.Decl {
	var decls []impl.Decl
	for i := range count {
		decls = append(decls, declared(impl.KindAxiom, "a"+strconv.Itoa(i), "", "*1", ""))
	}
	return decls
}

func TestKernelInWrongEnvironments(t *testing.T) {
	twice := newAxiom("*1")
	for _, e := range []impl.Env{
		envOf(twice, twice),
		envOf(impl.Decl{}),
		envOf(newAxiom("nothing")),
		envOf(natFamily(), natFamily()),
		envOf(quotients()),
		envOf(manyAxioms(impl.MaxDecls + 1)...),
		behind(kernelEnv(), newAxiom("[. Nat 0 two]")),
		behind(kernelEnv(), family("F", "", 0, "*1", "c", "[! f 0 [! x 0 F Nat] F]")),
	} {
		for _, d := range []impl.Decl{declared(impl.KindAxiom, "last", "", "*1", ""), twice, quotients(), {}, family("Last", "", 0, "*1", "Last.mk", "Last")} {
			kernelAsk{d: d}.holdInput(t, "an environment that is not valid", e)
			kernelAsk{d: d, universe: true}.holdInput(t, "an environment that is not valid", e)
		}
	}
	// an environment need only be valid: nothing in it is checked again
	for _, front := range []impl.Decl{newAxiom("[*1 *1]"), newDef("*1", "*5"), newTheorem("*1", "*1"), family("F", "", 0, "*1", "c", "[! T 0 *5 F]")} {
		d := declared(impl.KindAxiom, "last", "", "*1", "")
		kernelAsk{d: d}.holdEveryFuel(t, slowKernelOn(envOf(front)), kernelAnswer{})
	}
}

func TestKernelWithWrongDeclarations(t *testing.T) {
	e := kernelEnv()
	long := strings.Repeat("n", impl.MaxName-4)
	for _, d := range []impl.Decl{
		{},
		{Kind: 6, Name: "new", Type: prop()},
		{Kind: -1, Name: "new", Type: prop()},
		{Kind: impl.KindAxiom, Name: "new"},
		{Kind: impl.KindAxiom, Type: prop()},
		{Kind: impl.KindDef, Name: "new", Type: read("*1")},
		{Kind: impl.KindAxiom, Name: "new", Type: prop(), Fixed: 1},
		{Kind: impl.KindAxiom, Name: "new", Type: prop(), Ctors: []impl.Ctor{{Name: "c", Type: prop()}}},
		declared(impl.KindAxiom, "new", "", "#0", ""),
		declared(impl.KindAxiom, "new", "", "?0", ""),
		// a level with a name that is no parameter is told here already
		declared(impl.KindAxiom, "new", "", "*u", ""),
		declared(impl.KindAxiom, "new", "u", "id{v}", ""),
		declared(impl.KindAxiom, "new", "u u", "*u", ""),
		declared(impl.KindAxiom, "new", "max", "*0", ""),
		declared(impl.KindAxiom, "new", "a b c d e f g", "*0", ""),
		declared(impl.KindAxiom, "new.", "", "*0", ""),
		declared(impl.KindAxiom, long+"n", "", "*0", ""),
		declared(impl.KindAxiom, "new", "", "Nat", "two"),
		declared(impl.KindDef, "new", "", "Nat", "?0"),
		declared(impl.KindDef, "new", "", "*1", "[! x 0 *u *0]"),
		declared(impl.KindTheorem, "new", "", "True", "#0"),
		family("F", "", -1, "*1"),
		family("F", "", 51, "*1"),
		family("F", "", 0, "*1", "F", "F"),
		family("F", "", 0, "*1", "F.rec", "F"),
		family("F", "", 0, "*1", "c", "F", "c", "F"),
		family("F", "", 0, "*1", "c", "[! x 0 *u F]"),
		family("F", "", 0, "*1", "c", "[! x 0 ?0 F]"),
		family("F", "", 0, "*1", "c.", "F"),
		{Kind: impl.KindQuot, Name: "new"},
		{Kind: impl.KindQuot, Name: "Quot", Value: prop()},
		{Kind: impl.KindQuot, Name: "Quot", Fixed: 2},
	} {
		for _, front := range []impl.Env{e, {}, envOf(manyAxioms(impl.MaxDecls)...)} {
			kernelAsk{d: d}.holdInput(t, "a declaration that is not shaped", front)
			kernelAsk{d: d, universe: true}.holdInput(t, "a declaration that is not shaped", front)
		}
		if all, at, code := impl.AddAll([]impl.Decl{newAxiom("*1"), d}, 10); code != impl.CodeInput || at != 1 || len(all.Decls) != 0 {
			t.Errorf("all of them: code %d at %d", code, at)
		}
	}
	for _, x := range wrongTerms() {
		kernelAsk{d: impl.Decl{Kind: impl.KindAxiom, Name: "new", Type: x}}.holdInput(t, "a type that is not valid", e)
		kernelAsk{d: impl.Decl{Kind: impl.KindDef, Name: "new", Type: read("Nat"), Value: x}}.holdInput(t, "a value that is not valid", e)
		d := family("F", "", 0, "*1", "c", "F")
		d.Ctors[0].Type = x
		kernelAsk{d: d}.holdInput(t, "a constructor that is not valid", e)
		kernelAsk{d: d, universe: true}.holdInput(t, "a constructor that is not valid", e)
	}
	// the longest name
	kernelAsk{d: declared(impl.KindAxiom, long, "", "Nat", "")}.holdEveryFuel(t, slowKernelOn(e), kernelAnswer{})
}

func TestAddToFullEnvironments(t *testing.T) {
	full, almost := envOf(manyAxioms(impl.MaxDecls)...), envOf(manyAxioms(impl.MaxDecls-1)...)
	for _, d := range []impl.Decl{newAxiom("*1"), newDef("*2", "*1"), family("F", "", 0, "*1", "c", "[! x 0 a0 F]")} {
		kernelAsk{d: d}.hold(t, full, 10, kernelAnswer{0, impl.CodeSize})
		next, _, code := impl.Add(almost, d, 10)
		if code != 0 || len(next.Decls) != impl.MaxDecls || !impl.EnvOk(next) {
			t.Errorf("%s: code %d and %d declarations", d.Name, code, len(next.Decls))
		}
	}
	// ahead of all but CodeInput
	for _, d := range []impl.Decl{
		declared(impl.KindAxiom, "a0", "", "*1", ""), newAxiom("nothing"), newAxiom("[. F 0 a0]"), newAxiom("[a0 a0]"), newDef("a0", "a1"), newTheorem("*1", "a0"),
		quotients(), family("F", "", 0, "a0"), family("F", "", 0, "*1", "c", "a0"), family("F", "", 0, "*1", "c", "[! x 0 *5 F]"),
	} {
		kernelAsk{d: d}.hold(t, full, 10, kernelAnswer{0, impl.CodeSize})
	}
	kernelAsk{d: newAxiom("#0")}.hold(t, full, 10, kernelAnswer{0, impl.CodeInput})
	kernelAsk{d: newAxiom("*1")}.hold(t, full, -1, kernelAnswer{0, impl.CodeInput})
	kernelAsk{d: newAxiom("*1")}.hold(t, full, impl.MaxFuel+1, kernelAnswer{0, impl.CodeInput})
}

// A name that is taken, by any constant on either side; it comes ahead of all
// that is asked of a declaration's form and terms.
func TestAddTakenNames(t *testing.T) {
	e := kernelEnv()
	for _, name := range []string{"some", "two", "easy", "Nat", "Nat.zero", "Nat.succ", "Nat.rec", "Eq.refl", "Eq.rec", "False.rec", "Quot", "Quot.mk", "Quot.lift", "Quot.ind", "Quot.sound"} {
		cases := []kernelCase{
			{declared(impl.KindAxiom, name, "", "Nat", ""), 0, impl.CodeName},
			{declared(impl.KindAxiom, name, "", "nothing", ""), 0, impl.CodeName},
			{declared(impl.KindDef, name, "", "[two two]", name), 0, impl.CodeName},
			{declared(impl.KindTheorem, name, "", "Nat", "two"), 0, impl.CodeName},
			{family(name, "", 0, "*1"), 0, impl.CodeName},
			{family(name, "", 0, "two"), 0, impl.CodeName},
			{family("New", "", 0, "*1", name, "New"), 0, impl.CodeName},
			{family("New", "", 0, "*1", "c", "New", name, "Nat"), 0, impl.CodeName},
		}
		holdKernelCases(t, e, cases)
	}
	holdKernelCases(t, e, []kernelCase{{quotients(), 0, impl.CodeName}})
	holdKernelCases(t, behind(e, declared(impl.KindAxiom, "New.rec", "", "Nat", "")), []kernelCase{
		{family("New", "", 0, "*1"), 0, impl.CodeName},
		{family("New", "", 0, "*1", "c", "[! x 0 New two]"), 0, impl.CodeName},
		{declared(impl.KindAxiom, "New", "", "Nat", ""), 0, 0},
		{family("Newer", "", 0, "*1", "New", "Newer"), 0, 0},
		{family("Newer", "", 0, "*1", "New.rec.rec", "Newer"), 0, 0},
	})
	for _, name := range []string{"Quot", "Quot.mk", "Quot.lift", "Quot.ind", "Quot.sound"} {
		holdKernelCases(t, envOf(eqFamily(), declared(impl.KindAxiom, name, "", "*1", "")), []kernelCase{{quotients(), 0, impl.CodeName}})
		// ahead of the equality
		holdKernelCases(t, envOf(declared(impl.KindAxiom, name, "", "*1", "")), []kernelCase{{quotients(), 0, impl.CodeName}})
		holdKernelCases(t, envOf(eqFamily(), family("New", "", 0, "*1", name, "New")), []kernelCase{{quotients(), 0, impl.CodeName}})
	}
	// Quot.rec is no constant of the quotients, but one of a family Quot
	holdKernelCases(t, envOf(eqFamily(), declared(impl.KindAxiom, "Quot.rec", "", "*1", "")), []kernelCase{
		{quotients(), 0, 0},
		{family("Quot", "", 0, "*1"), 0, impl.CodeName},
	})
}

// Constants and projections that are not there, in each of the terms: those of
// the first one that has any, a constant ahead of a projection.
func TestAddUnknownConstants(t *testing.T) {
	lost, none := "[nothing two]", "[. Nat 0 two]"
	cases := []kernelCase{
		{newAxiom("nothing"), 0, impl.CodeConst},
		{newAxiom("new"), 0, impl.CodeConst},
		{newAxiom("id"), 0, impl.CodeConst},
		{newAxiom("id{0,0}"), 0, impl.CodeConst},
		{newAxiom("two{0}"), 0, impl.CodeConst},
		{newAxiom("[Quot.lift{0} two]"), 0, impl.CodeConst},
		{newAxiom("[two [two nothing]]"), 0, impl.CodeConst},
		{newAxiom("[. Nat 0 two]"), 0, impl.CodeProj},
		{newAxiom("[. nothing 0 two]"), 0, impl.CodeProj},
		{newAxiom("[. two 0 two]"), 0, impl.CodeProj},
		{newAxiom("[. Prod.mk 0 two]"), 0, impl.CodeProj},
		{newAxiom("[. Eq 0 two]"), 0, impl.CodeProj},
		{newAxiom("[. Vec 0 two]"), 0, impl.CodeProj},
		{newAxiom("[. Unit 0 two]"), 0, impl.CodeProj},
		{newAxiom("[. Prod 2 two]"), 0, impl.CodeProj},
		{newAxiom("[. new 0 two]"), 0, impl.CodeProj},
		{newAxiom("[. Prod 1 two]"), 0, impl.CodeProj},
		// within one term
		{newAxiom("[" + lost + " " + none + "]"), 0, impl.CodeConst},
		{newAxiom("[" + none + " " + lost + "]"), 0, impl.CodeConst},
		{newAxiom("[. Nat 0 nothing]"), 0, impl.CodeConst},
		{newAxiom("[! x 0 [. Prod 2 two] id]"), 0, impl.CodeConst},
		// one term ahead of the next
		{newDef(none, lost), 0, impl.CodeProj},
		{newDef(lost, none), 0, impl.CodeConst},
		{newDef("Nat", none), 0, impl.CodeProj},
		{newTheorem("True", lost), 0, impl.CodeConst},
		{newTheorem("True", "new"), 0, impl.CodeConst},
		{newDef("Nat", "[. new 0 two]"), 0, impl.CodeProj},
		{newDef("Nat", "["+none+" "+lost+"]"), 0, impl.CodeConst},
		// ahead of all that is found by work
		{newDef("two", lost), 0, impl.CodeConst},
		{newDef("[two two]", none), 0, impl.CodeProj},
		{newTheorem("Nat", lost), 0, impl.CodeConst},
		{newAxiom("[[two two] nothing]"), 0, impl.CodeConst},
		{newAxiom("[[two two] [. Nat 0 two]]"), 0, impl.CodeProj},
	}
	for _, c := range []struct {
		typ, first, second string
		code               int
	}{
		{lost, "Nat", none, impl.CodeConst},
		{none, "Nat", lost, impl.CodeProj},
		{none, lost, lost, impl.CodeProj},
		{"Nat", lost, none, impl.CodeConst},
		{"Nat", none, lost, impl.CodeProj},
		{"Nat", "Nat", lost, impl.CodeConst},
		{"Nat", "Nat", none, impl.CodeProj},
		{"Nat", "[" + none + " " + lost + "]", "Nat", impl.CodeConst},
		{"two", "Nat", lost, impl.CodeConst},
		{"Nat", "two", none, impl.CodeProj},
		{"Nat", "*5", lost, impl.CodeConst},
		{"two", "two", "two", impl.CodeSort},
	} {
		d := family("F", "", 0, "[! x 0 "+c.typ+" *1]", "a", "[! x 0 "+c.first+" [F two]]", "b", "[! x 0 "+c.second+" [F two]]")
		cases = append(cases, kernelCase{d, 0, c.code})
	}
	holdKernelCases(t, kernelEnv(), cases)
	// a family's form comes ahead of the constants
	holdKernelCases(t, kernelEnv(), []kernelCase{
		{family("F", "", 0, "[! x 0 nothing two]"), 0, impl.CodeFamily},
		{family("F", "", 0, "[! x 0 nothing *1]", "c", "F"), 0, impl.CodeCtor},
		{family("F", "", 0, "*1", "c", "[! x 0 nothing Nat]"), 0, impl.CodeCtor},
		{family("F", "", 0, "*1", "c", "[! x 0 nothing F]", "d", "[! x 0 [F two] F]"), 0, impl.CodePositive},
		{family("F", "", 0, "*1", "c", "[! x 0 [. Nat 0 two] F]", "d", "[! x 0 F{0} F]"), 0, impl.CodePositive},
	})
	holdKernelCases(t, impl.Env{}, []kernelCase{
		{newAxiom("Nat"), 0, impl.CodeConst},
		{newAxiom("*1"), 0, 0},
		{natFamily(), 0, 0},
		{listFamily(), 3, 0},
		{vecFamily(), 0, impl.CodeConst},
		{eqFamily(), 3, 0},
	})
}
