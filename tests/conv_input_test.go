package tests

import (
	"testing"

	"loop.example/g00005/impl"
)

// holdRefusedTerm is for a term that can't be asked for in a context, whichever
// of the two it is.
func holdRefusedTerm(t *testing.T, what string, e impl.Env, ctx []impl.Term, x impl.Term) {
	t.Helper()
	holdUncompared(t, what, e, ctx, x, prop())
	holdUncompared(t, what, e, ctx, prop(), x)
	holdUncompared(t, what, e, ctx, x, x)
	for _, fuel := range []int{-1, 0, 1, impl.MaxFuel, impl.MaxFuel + 1} {
		irrelevant, work, code := impl.Irrelevant(e, ctx, x, fuel)
		if irrelevant || work != 0 || code != impl.CodeInput {
			t.Errorf("%s: %v, work %d, code %d", what, irrelevant, work, code)
		}
	}
}

func TestConvOfWrongInput(t *testing.T) {
	t.Parallel()
	e, ctx := convEnv(), convContext()
	for _, text := range []string{
		"#12", "#13", "#20000", "[^ x 0 Nat #13]", "[! x 0 #12 #0]", "[= x Nat two #13]", "[two #12]", "[. Prod 0 #12]",
		"nothing", "[Nat.succ nothing]", "two{0}", "id", "id{0,0}", "Nat.rec", "Quot.lift{0}",
		"[. nothing 0 #0]", "[. Nat 0 #0]", "[. Prod 2 #0]", "[. Unit 0 #0]", "[. two 0 #0]", "[?0 nothing]",
	} {
		holdRefusedTerm(t, text, e, ctx, read(text))
	}
	for _, x := range wrongTerms() {
		holdRefusedTerm(t, "a term that is not valid", e, ctx, x)
		holdRefusedTerm(t, "a term that is not valid", impl.Env{}, nil, x)
	}
	// the last variable that there is, and one more
	for i := range len(ctx) {
		holdRefusedTerm(t, "a variable too many", e, ctx[:i], variable(i))
		(convAsk{askTypes, ctx[:i+1], variable(i), variable(i)}).hold(t, e, 1, true, 1, 0)
	}
}

func TestConvInWrongContexts(t *testing.T) {
	e := convEnv()
	for _, texts := range [][]string{{"#0"}, {"*1", "#1"}, {"nothing"}, {"*1", "two{0}", "*1"}, {"[. Prod 2 Nat]"}} {
		holdRefusedTerm(t, texts[0], e, contextOf(texts...), prop())
	}
	for _, x := range wrongTerms() {
		holdRefusedTerm(t, "a type that is not valid", e, []impl.Term{prop(), x}, prop())
	}
	full := make([]impl.Term, impl.MaxCtx)
	for i := range full {
		full[i] = constant("Nat")
	}
	last, first := variable(0), variable(impl.MaxCtx-1)
	(convAsk{askConv, full, last, first}).hold(t, e, 1, false, 1, 0)
	(convAsk{askTypes, full, last, first}).hold(t, e, 1, false, 1, 0)
	(convAsk{askIrrelevant, full, last, first}).hold(t, e, 0, false, 0, impl.CodeSort)
	holdRefusedTerm(t, "a type too many", e, append(full, prop()), prop())
	// binders may bring more types behind it
	a := pi("x", 0, constant("Nat"), pi("y", 0, constant("Nat"), app(constant("Eq", zero()), variable(1))))
	b := pi("x", 0, constant("Nat"), pi("y", 0, constant("Nat"), app(constant("Eq", zero()), variable(0))))
	(convAsk{askTypes, full, a, b}).hold(t, e, 6, false, 6, 0)
	(convAsk{askConv, full, lam("x", 0, constant("Nat"), first), lam("x", 0, constant("Nat"), last)}).hold(t, e, 9, false, 4, 0)
}

func TestConvInWrongEnvironments(t *testing.T) {
	e, ctx := convEnv(), convContext()
	for _, d := range []impl.Decl{natFamily(), {}, declared(impl.KindAxiom, "last", "", "nothing", ""), {Kind: impl.KindQuot, Name: "Quot"}} {
		holdRefusedTerm(t, "an environment that is not valid", behind(e, d), nil, prop())
		holdRefusedTerm(t, "an environment that is not valid", behind(e, d), ctx, read("two"))
	}
	holdRefusedTerm(t, "an environment without it", impl.Env{}, nil, read("two"))
	holdRefusedTerm(t, "an environment without it", impl.Env{}, ctx, prop())
	holdConvCases(t, askConv, impl.Env{}, contextOf("*u", "#0", "#1"), []convCase{
		{"#0", "#0", true, 1, 0},
		{"#0", "#1", false, 1, 0},
		{"#2", "[= x *0 *0 #3]", true, 2, 0},
		{"[^ x 0 #2 #0]", "[^ y 0 #2 #2]", false, 4, 0},
	})
}

// A fuel that is none comes ahead of all else.
func TestConvWithWrongFuel(t *testing.T) {
	e, ctx := convEnv(), convContext()
	for _, fuel := range []int{-1, -1 << 62, impl.MaxFuel + 1, 1<<63 - 1} {
		for _, q := range []convAsk{
			{askConv, ctx, variable(0), variable(0)},
			{askConv, ctx, hole(0), hole(0)},
			{askTypes, ctx, variable(0), variable(0)},
			{askTypes, ctx, read(omega), read(omega)},
			{askIrrelevant, ctx, variable(0), impl.Term{}},
			{askIrrelevant, ctx, constant("two"), impl.Term{}},
		} {
			q.hold(t, e, fuel, false, 0, impl.CodeInput)
		}
	}
}
