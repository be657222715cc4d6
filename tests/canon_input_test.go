package tests

import (
	"testing"

	"loop.example/g00005/impl"
)

// holdNoForm is for what neither function takes.
func holdNoForm(t *testing.T, what string, e impl.Env, ctx []impl.Term, x impl.Term) {
	t.Helper()
	for _, way := range []int{askCanon, askCanonType} {
		for _, fuel := range []int{-1, 0, 1, impl.MaxFuel, impl.MaxFuel + 1, -1 << 62, 1 << 62} {
			got, work, code := canonAsk{way, ctx, x}.ask(e, fuel)
			holdWork(t, what, got, work, code, "", 0, impl.CodeInput)
		}
	}
}

func TestCanonOfWrongInput(t *testing.T) {
	t.Parallel()
	e, ctx := convEnv(), convContext()
	for _, text := range []string{
		"#12", "#13", "#20000", "[^ x 0 Nat #13]", "[! x 0 #12 #0]", "[= x Nat two #13]", "[two #12]", "[. Prod 0 #12]",
		"nothing", "[Nat.succ nothing]", "[[by #11] nothing]", "two{0}", "id", "id{0,0}", "Nat.rec", "Quot.lift{0}",
		"[. nothing 0 #0]", "[. Nat 0 #0]", "[. Prod 2 #0]", "[. Unit 0 #0]", "[. two 0 #0]", "[?0 nothing]",
	} {
		holdNoForm(t, text, e, ctx, read(text))
	}
	for _, x := range wrongTerms() {
		holdNoForm(t, "a term that is not valid", e, ctx, x)
		holdNoForm(t, "a term that is not valid", impl.Env{}, nil, x)
	}
	// the last variable that there is, and one more
	for i := range len(ctx) {
		holdNoForm(t, "a variable too many", e, ctx[:i], variable(i))
		(canonAsk{askCanonType, ctx[:i+1], variable(i)}).hold(t, e, 1, written(variable(i)), 1, 0)
	}
}

func TestCanonInWrongContexts(t *testing.T) {
	t.Parallel()
	e := convEnv()
	for _, texts := range [][]string{{"#0"}, {"*1", "#1"}, {"nothing"}, {"*1", "two{0}", "*1"}, {"[. Prod 2 Nat]"}} {
		holdNoForm(t, texts[0], e, contextOf(texts...), prop())
	}
	for _, x := range wrongTerms() {
		holdNoForm(t, "a type that is not valid", e, []impl.Term{prop(), x}, prop())
	}
	full := make([]impl.Term, impl.MaxCtx)
	for i := range full {
		full[i] = constant("Nat")
	}
	first := variable(impl.MaxCtx - 1)
	(canonAsk{askCanon, full, first}).hold(t, e, 1, "#199", 1, 0)
	(canonAsk{askCanonType, full, first}).hold(t, e, 1, "#199", 1, 0)
	holdNoForm(t, "a type too many", e, append(full, prop()), prop())
	// binders bring more types behind it
	(canonAsk{askCanon, full, lam("y", 2, constant("Nat"), variable(impl.MaxCtx))}).hold(t, e, 9, "[^ x 0 Nat #200]", 4, 0)
	(canonAsk{askCanonType, full, pi("y", 2, constant("Nat"), pi("z", 1, constant("Nat"), app(constant("fam"), variable(1))))}).hold(t, e, 9, "[! x 0 Nat [! x 0 Nat [fam #1]]]", 7, 0)
}

func TestCanonInWrongEnvironments(t *testing.T) {
	t.Parallel()
	e, ctx := convEnv(), convContext()
	for _, d := range []impl.Decl{natFamily(), {}, declared(impl.KindAxiom, "last", "", "nothing", ""), {Kind: impl.KindQuot, Name: "Quot"}} {
		holdNoForm(t, "an environment that is not valid", behind(e, d), nil, prop())
		holdNoForm(t, "an environment that is not valid", behind(e, d), ctx, read("two"))
	}
	holdNoForm(t, "an environment without it", impl.Env{}, nil, read("two"))
	holdNoForm(t, "an environment without it", impl.Env{}, ctx, prop())
	holdCanonCases(t, askCanon, impl.Env{}, contextOf("*u", "#0", "[! y 1 #1 #2]"), []typeCase{
		{"#2", "#2", 2, 0},
		{"#1", "#1", 1, 0},
		{"#0", "[^ x 0 #2 [#1 #0]]", 4, 0},
		{"[= z *0 *0 #3]", "#2", 3, 0},
		{"*1", "*1", 2, 0},
	})
	holdCanonCases(t, askCanonType, impl.Env{}, nil, []typeCase{
		{"*0", "*0", 1, 0},
		{"[! A 2 *u [! a 1 #0 #1]]", "[! x 0 *u [! x 0 #0 #1]]", 5, 0},
	})
}

// A fuel that is none comes ahead of all else.
func TestCanonWithWrongFuel(t *testing.T) {
	e, ctx := convEnv(), convContext()
	for _, fuel := range []int{-1, -1 << 62, impl.MaxFuel + 1, 1<<63 - 1} {
		for _, x := range []impl.Term{variable(11), hole(0), read(omega), read("[two two]"), read("Nat")} {
			(canonAsk{askCanon, ctx, x}).hold(t, e, fuel, "", 0, impl.CodeInput)
			(canonAsk{askCanonType, ctx, x}).hold(t, e, fuel, "", 0, impl.CodeInput)
		}
	}
	// no fuel at all
	for _, text := range []string{"#11", "Nat", "*0", "#2", "#5", omega} {
		(canonAsk{askCanonType, ctx, read(text)}).hold(t, e, 0, "", 0, impl.CodeFuel)
	}
	for _, text := range []string{"#11", "Nat", "*0", "#2", "#5"} {
		(canonAsk{askCanon, ctx, read(text)}).hold(t, e, 0, "", 0, impl.CodeFuel)
	}
	(canonAsk{askCanon, ctx, hole(0)}).hold(t, e, 0, "", 0, impl.CodeHole)
}
