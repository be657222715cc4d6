package tests

import (
	"testing"

	"loop.example/g00005/impl"
)

// fieldCase is a structure's type, the number of a field and a term, with the
// field's type or the code.
type fieldCase struct {
	s    string
	n    int
	t    string
	out  string
	code int
}

func slowField(w *slowSteps, s impl.Term, n int, x impl.Term) (tree, int) {
	typ, _, code := w.slowly(0, func(m *slowMeter) tree {
		m.exact = true
		return m.fieldType(treeOf(s), n, treeOf(x))
	})
	return typ, code
}

func holdField(t *testing.T, w *slowSteps, s impl.Term, n int, x impl.Term, want string, code int) {
	t.Helper()
	what := "field " + short(written(s))
	beforeS, beforeX := copyTerm(s), copyTerm(x)
	got, gotCode := impl.FieldType(w.e, s, n, x)
	holdWork(t, what, got, n, gotCode, want, n, code)
	if !equalTerms(s, beforeS) || !equalTerms(x, beforeX) {
		t.Errorf("%s: an argument was changed", what)
	}
	if code != impl.CodeInput {
		if typ, slowCode := slowField(w, s, n, x); typ.told() != want || slowCode != code {
			t.Errorf("%s: by the slow way code %d\n%s", what, slowCode, short(typ.told()))
		}
	}
}

func holdFields(t *testing.T, e impl.Env, cases []fieldCase) {
	t.Helper()
	w := slowStepsIn(e)
	for _, c := range cases {
		holdField(t, w, read(c.s), c.n, read(c.t), c.out, c.code)
	}
}

func TestFieldType(t *testing.T) {
	all := "[[[All{1,w} #7] two] #3]"
	holdFields(t, typeEnv(), []fieldCase{
		{"[Box{3} Nat]", 0, "#0", "Nat", 0},
		{"[Box{3} #9]", 0, "two", "#9", 0},
		{"[[Prod{0,0} Nat] #2]", 0, "#0", "Nat", 0},
		{"[[Prod{0,0} Nat] #2]", 1, "#0", "#2", 0},
		{"[[Prod{u,v} *0] [^ x 0 Nat #1]]", 1, "?0", "[^ x 0 Nat #1]", 0},
		{"[[Sigma{0,0} Nat] #4]", 0, "#0", "Nat", 0},
		{"[[Sigma{0,0} Nat] #4]", 1, "#0", "[#4 [. Sigma 0 #0]]", 0},
		{"[[Sigma{0,0} Nat] [^ x 0 Nat [#5 #0]]]", 1, "[fun #1]", "[[^ x 0 Nat [#5 #0]] [. Sigma 0 [fun #1]]]", 0},
		{"Two", 0, "#0", "Nat", 0},
		{"Two", 1, "#0", "[[[Eq{1} Nat] [. Two 0 #0]] two]", 0},
		// types that hang on parameters and fields, under binders, with levels
		{all, 0, "#2", "#7", 0},
		{all, 1, "#2", "[! x 0 #7 [! y 0 Nat [#5 [. All 0 #4]]]]", 0},
		{all, 2, "#2", "[[[Eq{w} [#3 [. All 0 #2]]] [[[. All 1 #2] [. All 0 #2]] two]] [[[. All 1 #2] [. All 0 #2]] two]]", 0},
		{all, 3, "#2", "*max(1,w)", 0},
		{"[[[All{1,w} [^ x 0 Nat #8]] two] [^ x 0 Nat #4]]", 1, "[^ x 0 Nat #3]",
			"[! x 0 [^ x 0 Nat #8] [! y 0 Nat [[^ x 0 Nat #6] [. All 0 [^ x 0 Nat #5]]]]]", 0},
		{"[[[All{imax(u,v),u} #0] #1] #2]", 3, "#0", "*max(imax(u,v),u)", 0},
		// neither s nor t need have a type, and no step is done
		{"[[Prod{0,0} two] [two two]]", 1, "[two two]", "[two two]", 0},
		{"[[Prod{0,0} two] [[id{1} Nat] Nat]]", 1, "Nat", "[[id{1} Nat] Nat]", 0},
		// no such field
		{"[Box{3} Nat]", 1, "#0", "", impl.CodeProj},
		{"[Box{3} Nat]", -1, "#0", "", impl.CodeProj},
		{"[[Prod{0,0} Nat] Nat]", 2, "#0", "", impl.CodeProj},
		{"[[Prod{0,0} Nat] Nat]", -1, "#0", "", impl.CodeProj},
		{"[[Prod{0,0} Nat] Nat]", -1 << 62, "#0", "", impl.CodeProj},
		{"[[Prod{0,0} Nat] Nat]", 1 << 62, "#0", "", impl.CodeProj},
		{all, 4, "#2", "", impl.CodeProj},
		{"Two", 2, "#0", "", impl.CodeProj},
		{"Unit", 0, "#0", "", impl.CodeProj},
		{"Unit", -1, "#0", "", impl.CodeProj},
		// no structure, or not all its arguments, or more
		{"Box{3}", 0, "#0", "", impl.CodeProj},
		{"[[Box{3} Nat] Nat]", 0, "#0", "", impl.CodeProj},
		{"Prod{0,0}", 0, "#0", "", impl.CodeProj},
		{"[Prod{0,0} Nat]", 0, "#0", "", impl.CodeProj},
		{"[[[Prod{0,0} Nat] Nat] Nat]", 0, "#0", "", impl.CodeProj},
		{"[Two Nat]", 0, "#0", "", impl.CodeProj},
		{"Nat", 0, "#0", "", impl.CodeProj},
		{"[[[Eq{1} Nat] two] two]", 0, "#0", "", impl.CodeProj},
		{"True", 0, "#0", "", impl.CodeProj},
		{"Empty", 0, "#0", "", impl.CodeProj},
		{"[Vec{1} Nat]", 0, "#0", "", impl.CodeProj},
		{"[List{1} Nat]", 0, "#0", "", impl.CodeProj},
		{"Two.mk", 0, "#0", "", impl.CodeProj},
		{"Two.rec{1}", 0, "#0", "", impl.CodeProj},
		{"[[Quot{0} Nat] #0]", 0, "#0", "", impl.CodeProj},
		{"some", 0, "#0", "", impl.CodeProj},
		{"Pair", 0, "#0", "", impl.CodeProj},
		{"[= x *1 Nat [Box{0} #0]]", 0, "#0", "", impl.CodeProj},
		{"#0", 0, "#0", "", impl.CodeProj},
		{"[#0 Nat]", 0, "#0", "", impl.CodeProj},
		{"?0", 0, "#0", "", impl.CodeProj},
		{"*1", 0, "#0", "", impl.CodeProj},
		{"[! Two 0 Nat Nat]", 0, "#0", "", impl.CodeProj},
		{"[^ Two 0 Nat Two]", 0, "#0", "", impl.CodeProj},
		{"[. Two 0 #0]", 0, "#0", "", impl.CodeProj},
		// what is not known comes first
		{"nothing", 0, "#0", "", impl.CodeInput},
		{"nothing", -1, "#0", "", impl.CodeInput},
		{"Nat", 0, "nothing", "", impl.CodeInput},
		{"Two", 0, "nothing", "", impl.CodeInput},
		{"Two", 7, "[. Unit 0 #0]", "", impl.CodeInput},
		{"Box", 0, "#0", "", impl.CodeInput},
		{"[Box{1,1} Nat]", 0, "#0", "", impl.CodeInput},
		{"Two", 0, "Box{0,0}", "", impl.CodeInput},
	})
}

func TestFieldTypeOfFarVariables(t *testing.T) {
	w := slowStepsIn(typeEnv())
	far := variable(impl.MaxNodes - 1)
	below := lam("x", 0, prop(), variable(impl.MaxNodes))
	beyond := []impl.Term{variable(impl.MaxNodes), lam("x", 0, variable(impl.MaxNodes), prop())}
	two, box := constant("Two"), func(x impl.Term) impl.Term { return app(constant("Box", zero()), x) }
	holdField(t, w, box(far), 0, far, "#19999", 0)
	holdField(t, w, box(below), 0, far, "[^ x 0 *0 #20000]", 0)
	holdField(t, w, two, 1, far, "[[[Eq{1} Nat] [. Two 0 #19999]] two]", 0)
	holdField(t, w, two, 1, below, "[[[Eq{1} Nat] [. Two 0 [^ x 0 *0 #20000]]] two]", 0)
	for _, x := range beyond {
		holdField(t, w, box(x), 0, far, "", impl.CodeInput)
		holdField(t, w, two, 0, x, "", impl.CodeInput)
		holdField(t, w, two, 5, x, "", impl.CodeInput)
		holdField(t, w, x, 0, prop(), "", impl.CodeInput)
	}
	for _, x := range wrongTerms() {
		for _, n := range []int{-1, 0, 1, 9} {
			if got, code := impl.FieldType(w.e, two, n, x); code != impl.CodeInput || len(got.Nodes) != 0 {
				t.Errorf("a term that is not valid: code %d", code)
			}
			if got, code := impl.FieldType(w.e, x, n, far); code != impl.CodeInput || len(got.Nodes) != 0 {
				t.Errorf("a structure that is not valid: code %d", code)
			}
		}
	}
	for _, d := range []impl.Decl{natFamily(), {}, declared(impl.KindAxiom, "last", "", "nothing", "")} {
		for n := -1; n < 3; n++ {
			if got, code := impl.FieldType(behind(w.e, d), two, n, far); code != impl.CodeInput || len(got.Nodes) != 0 {
				t.Errorf("an environment that is not valid: code %d", code)
			}
		}
	}
	if _, code := impl.FieldType(impl.Env{}, prop(), 0, far); code != impl.CodeProj {
		t.Errorf("the environment with nothing: code %d", code)
	}
}

// A field of a structure whose field's types use nothing in front.
func TestFieldTypeToTheLimits(t *testing.T) {
	long := longLevel(impl.MaxLevel)
	w := slowStepsIn(behind(typeEnv(),
		family("Deep", "u", 1, "[! A 0 *1 *1]", "Deep.mk",
			"[! A 0 *1 [! a 0 #0 [! f 0 [! x 0 #1 [! y 0 #2 [[[Eq{1} #3] #2] #1]]] [! l 0 *u+1 [Deep{u} #3]]]]]")))
	deep := func(l impl.Level, x impl.Term) impl.Term { return app(constant("Deep", l), x) }
	far := func(less int) impl.Term { return variable(impl.MaxNodes - 1 - less) }
	for i, c := range []struct {
		s    impl.Term
		n    int
		x    impl.Term
		code int
	}{
		{deep(zero(), far(0)), 0, far(0), 0},
		// t stands under two binders, the parameter under two as well
		{deep(zero(), prop()), 1, far(1), 0},
		{deep(zero(), prop()), 1, far(0), impl.CodeSize},
		{deep(zero(), far(1)), 1, prop(), 0},
		{deep(zero(), far(0)), 1, prop(), impl.CodeSize},
		{deep(zero(), far(0)), 2, far(0), 0},
		{deep(longLevel(impl.MaxLevel-1), prop()), 2, prop(), 0},
		{deep(long, prop()), 2, prop(), impl.CodeSize},
		{deep(long, prop()), 1, prop(), 0},
		{deep(long, prop()), 3, prop(), impl.CodeProj},
		{app(deep(long, prop()), prop()), 2, prop(), impl.CodeProj},
		// as many nodes as there may be: [[[Eq{1} Nat] [. Two 0 t]] two] has 7 more
		{constant("Two"), 1, sized(impl.MaxNodes - 7), 0},
		{constant("Two"), 1, sized(impl.MaxNodes - 6), impl.CodeSize},
		{constant("Two"), 0, sized(impl.MaxNodes), 0},
		{constant("Two"), 1, sized(impl.MaxNodes), impl.CodeSize},
		{constant("Two"), 2, sized(impl.MaxNodes), impl.CodeProj},
		{app(constant("Box", zero()), sized(impl.MaxNodes-2)), 0, sized(impl.MaxNodes), 0},
		// [B [. Sigma 0 t]]
		{app(constant("Sigma", zero(), zero()), prop(), sized(15000)), 1, sized(4998), 0},
		{app(constant("Sigma", zero(), zero()), prop(), sized(15000)), 1, sized(4999), impl.CodeSize},
		{app(constant("Sigma", zero(), zero()), prop(), sized(15000)), 0, sized(impl.MaxNodes), 0},
		// TermProj 0 of t is made, whether the type uses it or not
		{app(constant("Prod", zero(), zero()), prop(), prop()), 1, sized(impl.MaxNodes - 1), 0},
		{app(constant("Prod", zero(), zero()), prop(), prop()), 1, sized(impl.MaxNodes), impl.CodeSize},
	} {
		typ, code := slowField(w, c.s, c.n, c.x)
		if code != c.code {
			t.Errorf("case %d: by the slow way code %d", i, code)
		}
		holdField(t, w, c.s, c.n, c.x, typ.told(), c.code)
	}
}

// longLevel is a level of so many nodes.
func longLevel(nodes int) impl.Level {
	return succ(param("u"), nodes-1)
}
