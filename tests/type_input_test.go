package tests

import (
	"testing"

	"loop.example/g00005/impl"
)

// holdContext is for contexts and environments: where the two are not valid,
// nothing has a type.
func holdContext(t *testing.T, what string, e impl.Env, ctx []impl.Term, want bool) {
	t.Helper()
	before, beforeEnv := copyTerms(ctx), copyEnv(e)
	if got := impl.CtxOk(e, ctx); got != want {
		t.Errorf("%s: valid is %v", what, got)
	}
	if !want {
		holdUntyped(t, what, e, ctx, prop())
	} else if _, _, code := impl.TypeOf(e, ctx, prop(), 0); code != 0 {
		t.Errorf("%s: code %d", what, code)
	}
	if !equalLists(ctx, before) || !equalEnvs(e, beforeEnv) {
		t.Errorf("%s: an argument was changed", what)
	}
}

// holdUntyped is for what TypeOf and SortOf do not take.
func holdUntyped(t *testing.T, what string, e impl.Env, ctx []impl.Term, x impl.Term) {
	t.Helper()
	for _, fuel := range []int{-1, 0, 1, impl.MaxFuel, impl.MaxFuel + 1, -1 << 62, 1 << 62} {
		got, work, code := impl.TypeOf(e, ctx, x, fuel)
		holdWork(t, what, got, work, code, "", 0, impl.CodeInput)
		got, work, code = sortTerm(e, ctx, x, fuel)
		holdWork(t, what, got, work, code, "", 0, impl.CodeInput)
	}
}

func TestCtxOk(t *testing.T) {
	e := typeEnv()
	holdContext(t, "no type", e, nil, true)
	holdContext(t, "no type", e, []impl.Term{}, true)
	holdContext(t, "no type and no declaration", impl.Env{}, nil, true)
	holdContext(t, "the tests' own", e, plainContext(), true)
	for _, c := range []struct {
		texts []string
		want  bool
	}{
		{[]string{"*1"}, true},
		{[]string{"?0"}, true},
		{[]string{"two"}, true},
		{[]string{"[two two]", "[[#0 two] #0]"}, true},
		{[]string{"#0"}, false},
		{[]string{"[^ x 0 Nat #0]"}, true},
		{[]string{"[^ x 0 Nat #1]"}, false},
		{[]string{"*1", "#0", "#0"}, true},
		{[]string{"*1", "#0", "#1"}, true},
		{[]string{"*1", "#1", "#0"}, false},
		{[]string{"*1", "#0", "#2"}, false},
		{[]string{"*1", "#0", "[! x 0 #1 #2]"}, true},
		{[]string{"*1", "#0", "[! x 0 #1 #3]"}, false},
		{[]string{"*1", "#0", "[! x 0 #2 #2]"}, false},
		{[]string{"*1", "#0", "*0", "#3"}, false},
		{[]string{"nothing"}, false},
		{[]string{"*1", "[#0 nothing]", "*1"}, false},
		{[]string{"*1", "two{0}"}, false},
		{[]string{"*1", "id"}, false},
		{[]string{"id{0,0}", "*1"}, false},
		{[]string{"[. Prod 1 Nat]"}, true},
		{[]string{"[. Prod 2 Nat]"}, false},
		{[]string{"[. Nat 0 Nat]"}, false},
	} {
		holdContext(t, c.texts[len(c.texts)-1], e, contextOf(c.texts...), c.want)
	}
	for _, x := range wrongTerms() {
		holdContext(t, "a type that is not valid", e, []impl.Term{x}, false)
		holdContext(t, "a type that is not valid", e, []impl.Term{prop(), x, prop()}, false)
	}
}

func TestCtxOkOfManyTypes(t *testing.T) {
	t.Parallel()
	e := typeEnv()
	var ctx []impl.Term
	for i := range impl.MaxCtx + 3 {
		typ := constant("Nat")
		if i > 0 && i%2 == 0 {
			typ = app(variable(i-1), variable(0))
		}
		ctx = append(ctx, typ)
	}
	for _, count := range []int{1, 2, impl.MaxCtx - 1, impl.MaxCtx, impl.MaxCtx + 1, impl.MaxCtx + 3} {
		holdContext(t, "many types", e, ctx[:count], count <= impl.MaxCtx)
	}
	full := ctx[:impl.MaxCtx]
	holdTypesOf(t, e, full, []typeCase{
		{"#199", "Nat", 0, 0},
		{"#198", "Nat", 0, 0},
		{"#197", "[#199 #198]", 0, 0},
		{"#101", "[#199 #102]", 0, 0},
		{"#1", "[#199 #2]", 0, 0},
		{"#0", "Nat", 0, 0},
		// more variables than a context may have, by binders
		{"[^ x 0 #1 [^ y 0 #2 [[Eq.refl{1} #1] #3]]]", "[! x 0 #1 [! y 0 #2 [[[Eq{1} #1] #3] #3]]]", 0, 0},
		{"[! x 0 Nat [! y 0 Nat Nat]]", "*imax(1,imax(1,1))", 0, 0},
	})
	holdUntyped(t, "a variable too many", e, full, variable(impl.MaxCtx))
	// all of them next to the limit of their own
	for i := range full {
		full[i] = app(variable(i), prop())
	}
	full[0] = prop()
	for i := 1; i < len(full); i++ {
		holdContext(t, "a type that uses one variable more", e, full[:i+1], false)
		full[i] = app(variable(i-1), prop())
	}
	holdContext(t, "types that use all variables", e, full, true)
}

func TestTypesOfWrongInput(t *testing.T) {
	e, ctx := typeEnv(), plainContext()
	for _, text := range []string{
		"#6", "#7", "#20000", "[^ x 0 Nat #7]", "[^ x 0 #6 #0]", "[! x 0 Nat #7]", "[= x Nat two #7]", "[= x Nat #6 #0]", "[= x #6 two #0]", "[two #6]", "[. Prod 0 #6]",
		"nothing", "[Nat.succ nothing]", "[^ x 0 nothing Nat]", "two{0}", "id", "id{0,0}", "Nat.rec", "Quot.lift{0}",
		"[. nothing 0 #0]", "[. Nat 0 #0]", "[. Prod 2 #0]", "[. Unit 0 #0]", "[. two 0 #0]", "[?0 nothing]", "[[two two] #6]",
	} {
		holdUntyped(t, text, e, ctx, read(text))
	}
	for _, x := range wrongTerms() {
		holdUntyped(t, "a term that is not valid", e, ctx, x)
	}
	for i := range ctx {
		text := written(variable(i))
		holdUntyped(t, text, e, ctx[:i], read(text))
		if _, _, code := impl.TypeOf(e, ctx[:i+1], read(text), 0); code != 0 {
			t.Errorf("%s: code %d", text, code)
		}
	}
	for _, d := range []impl.Decl{natFamily(), {}, declared(impl.KindAxiom, "last", "", "nothing", ""), {Kind: impl.KindQuot, Name: "Quot"}} {
		holdContext(t, "an environment that is not valid", behind(e, d), nil, false)
		holdContext(t, "an environment that is not valid", behind(e, d), ctx, false)
		holdUntyped(t, "an environment that is not valid", behind(e, d), ctx, read("[two two]"))
	}
	holdUntyped(t, "an environment without it", impl.Env{}, nil, read("two"))
	holdContext(t, "an environment without it", impl.Env{}, ctx, false)
}
