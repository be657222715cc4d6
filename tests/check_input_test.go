package tests

import (
	"strings"
	"testing"

	"loop.example/g00005/impl"
)

// holdRefused is for a question that is not as the chapter wants it.
func (q checkAsk) holdRefused(t *testing.T, what string, e impl.Env) {
	t.Helper()
	for _, fuel := range []int{-1, 0, 1, 40, impl.MaxFuel, impl.MaxFuel + 1, -1 << 62, 1 << 62} {
		if got := q.ask(e, fuel); got != (checkAnswer{code: impl.CodeInput}) {
			t.Errorf("%s: %s, fuel %d: %s", what, q.text(), fuel, got.text())
		}
	}
}

// holdRefusedAsTerm is for a term that can't be asked for in a context, neither
// as the term nor as what is wanted.
func holdRefusedAsTerm(t *testing.T, what string, e impl.Env, ctx []impl.Term, x impl.Term) {
	t.Helper()
	checkAsk{way: askInfer, ctx: ctx, x: x}.holdRefused(t, what, e)
	checkAsk{way: askCheck, ctx: ctx, x: x, want: prop()}.holdRefused(t, what, e)
	checkAsk{way: askCheck, ctx: ctx, x: prop(), want: x}.holdRefused(t, what, e)
	checkAsk{way: askCheck, ctx: ctx, x: hole(0), want: x}.holdRefused(t, what, e)
	checkAsk{way: askCheck, ctx: ctx, x: x, want: x}.holdRefused(t, what, e)
}

// holdRefusedEverywhere is for an environment or a context that is not valid.
func holdRefusedEverywhere(t *testing.T, what string, e impl.Env, ctx []impl.Term) {
	t.Helper()
	for _, x := range []impl.Term{prop(), hole(0)} {
		holdRefusedAsTerm(t, what, e, ctx, x)
	}
	checkAsk{way: askCtx, ctx: ctx}.holdRefused(t, what, e)
}

func TestCheckingOfWrongTerms(t *testing.T) {
	t.Parallel()
	e, ctx := convEnv(), convContext()
	for _, text := range []string{
		"#12", "#13", "#20000", "[^ x 0 Nat #13]", "[! x 0 #12 #0]", "[= x Nat two #13]", "[= x Nat #12 #0]", "[= x #12 two #0]", "[two #12]", "[. Prod 0 #12]",
		"nothing", "[Nat.succ nothing]", "[= x Nat two nothing]", "two{0}", "id", "id{0,0}", "Nat.rec", "Quot.lift{0}",
		"[. nothing 0 #0]", "[. Nat 0 #0]", "[. Prod 2 #0]", "[. Unit 0 #0]", "[. two 0 #0]", "[?0 nothing]", "[[two two] #12]", "[*w nothing]",
	} {
		holdRefusedAsTerm(t, text, e, ctx, read(text))
	}
	for _, x := range wrongTerms() {
		holdRefusedAsTerm(t, "a term that is not valid", e, ctx, x)
		holdRefusedAsTerm(t, "a term that is not valid", impl.Env{}, nil, x)
	}
	// the last variable that there is, and one more
	for i := range len(ctx) {
		holdRefusedAsTerm(t, "a variable too many", e, ctx[:i], variable(i))
		if got := (checkAsk{way: askInfer, ctx: ctx[:i+1], x: variable(i)}).ask(e, 0); got != (checkAnswer{typ: "Nat"}) {
			t.Errorf("the outermost variable of %d: %s", i+1, got.text())
		}
	}
}

func TestCheckingInWrongContexts(t *testing.T) {
	t.Parallel()
	e := convEnv()
	for _, texts := range [][]string{{"#0"}, {"*1", "#1"}, {"nothing"}, {"*1", "two{0}", "*1"}, {"[. Prod 2 Nat]"}, {"two", "?0", "nothing"}, {"*1", "#0", "[! x 0 #1 #3]"}} {
		holdRefusedEverywhere(t, texts[0], e, contextOf(texts...))
	}
	for _, x := range wrongTerms() {
		holdRefusedEverywhere(t, "a type that is not valid", e, []impl.Term{x})
		holdRefusedEverywhere(t, "a type that is not valid", e, []impl.Term{prop(), x, prop()})
	}
	full := make([]impl.Term, impl.MaxCtx)
	for i := range full {
		full[i] = constant("Nat")
	}
	holdRefusedEverywhere(t, "a type too many", e, append(full, prop()))
	w := slowStepsIn(e)
	checkAsk{way: askCtx, ctx: full}.holdEveryFuel(t, w, checkAnswer{})
	// binders bring more types behind it
	q := checkAsk{way: askInfer, ctx: full, x: read("[^ x 0 Nat [^ y 0 Unit [[add #1] #201]]]")}
	q.holdEveryFuel(t, w, checkAnswer{"[! x 0 Nat [! y 0 Unit Nat]]", 2, 0, 0})
	q.x = read("[^ x 0 Nat [^ y 0 Unit [[add #0] #201]]]")
	q.holdEveryFuel(t, w, checkAnswer{"", 1, impl.CodeArg, 4})
	// the last type of a full context
	full[impl.MaxCtx-1] = variable(0)
	checkAsk{way: askCtx, ctx: full}.holdEveryFuel(t, w, checkAnswer{"", 0, impl.CodeSort, impl.MaxCtx - 1})
	full[0] = constant("two")
	checkAsk{way: askCtx, ctx: full}.holdEveryFuel(t, w, checkAnswer{"", 0, impl.CodeSort, 0})
}

func TestCheckingInWrongEnvironments(t *testing.T) {
	e, ctx := convEnv(), convContext()
	for _, d := range []impl.Decl{natFamily(), {}, declared(impl.KindAxiom, "last", "", "nothing", ""), {Kind: impl.KindQuot, Name: "Quot"}} {
		holdRefusedEverywhere(t, "an environment that is not valid", behind(e, d), nil)
		holdRefusedEverywhere(t, "an environment that is not valid", behind(e, d), ctx)
	}
	holdRefusedAsTerm(t, "an environment without it", impl.Env{}, nil, read("two"))
	holdRefusedEverywhere(t, "an environment without it", impl.Env{}, ctx)
	holdInferCases(t, impl.Env{}, contextOf("*u", "#0"), []inferCase{
		{"#0", "#1", 0, 0, 0},
		{"[^ x 0 #1 #0]", "[! x 0 #1 #2]", 0, 0, 0},
		{"[[^ x 0 #1 #0] #0]", "#1", 1, 0, 0},
		{"[[^ x 0 #1 #0] #1]", "", 1, impl.CodeArg, 4},
	})
}

func TestCheckingWithWrongParams(t *testing.T) {
	e, ctx := convEnv(), convContext()
	most := strings.Repeat("n", impl.MaxName)
	for _, params := range [][]string{
		{"a", "b", "c", "d", "e", "f", "g"},
		{""}, {"u", ""}, {"1"}, {"u v"}, {"u.v"}, {"."}, {"u,v"}, {"é"}, {"u\x00"}, {most + "n"},
		{"u", "u"}, {"u", "v", "u"}, {"a", "b", "c", "d", "e", "e"}, {"_", "_"},
	} {
		for way := range 3 {
			q := checkAsk{way, params, ctx, prop(), read("*1")}
			q.holdRefused(t, "params", e)
			q.x = hole(0)
			q.holdRefused(t, "params", e)
		}
	}
	// max and imax are short names, though no level has one of them
	for _, params := range [][]string{
		nil, {}, {"u"}, {"a", "b", "c", "d", "e", "f"}, {"max"}, {"imax", "max"}, {"_"}, {"u'", "_1"}, {most}, {"u", "U"},
	} {
		for way := range 3 {
			want := checkAnswer{work: way % 2}
			if way == askCtx {
				want.work = 6
			}
			if way == askInfer {
				want.typ = "*1"
			}
			checkAsk{way, params, ctx, prop(), read("*1")}.hold(t, e, 9, want)
		}
	}
}

// The params are the names that levels may have, and no others.
func TestParams(t *testing.T) {
	e := convEnv()
	for _, c := range []struct {
		params string
		x      string
		code   int
		place  int
	}{
		{"", "*0", 0, 0},
		{"", "*u", impl.CodeLevel, 0},
		{"u", "*u", 0, 0},
		{"v", "*u", impl.CodeLevel, 0},
		{"v u", "*u", 0, 0},
		{"u v", "*max(u,v)", 0, 0},
		{"u", "*max(u,v)", impl.CodeLevel, 0},
		{"v", "*max(u,v)", impl.CodeLevel, 0},
		{"a b c d e f", "*max(a,max(b,max(c,max(d,max(e,f)))))", 0, 0},
		{"a b c d e g", "*max(a,max(b,max(c,max(d,max(e,f)))))", impl.CodeLevel, 0},
		{"u", "[Prod{u,u} *u]", 0, 0},
		{"u", "[Prod{u+1,u} *u]", impl.CodeArg, 2},
		{"u", "[Prod{u,v} *u]", impl.CodeLevel, 0},
		{"v", "[Prod{v,v} *u]", impl.CodeLevel, 1},
		{"max", "*u", impl.CodeLevel, 0},
		// the parameters of a constant are others than those of the same name
		{"", "id{0}", 0, 0},
		{"v", "id{v}", 0, 0},
		{"u", "id{v}", impl.CodeLevel, 0},
	} {
		got := checkAsk{way: askInfer, params: strings.Fields(c.params), x: read(c.x)}.ask(e, 100)
		if got.code != c.code || got.place != c.place {
			t.Errorf("%s with %s: %s", c.x, c.params, got.text())
		}
	}
	// names in the context and in what is wanted are not looked at; CheckCtx does
	ctx := contextOf("*w", "#0")
	w := slowStepsIn(e)
	checkAsk{way: askInfer, ctx: ctx, x: read("#1")}.holdEveryFuel(t, w, checkAnswer{typ: "*w"})
	checkAsk{way: askCheck, ctx: ctx, x: read("#1"), want: read("*w")}.holdEveryFuel(t, w, checkAnswer{work: 1})
	checkAsk{way: askInfer, ctx: ctx, x: read("[! x 0 #1 #2]")}.holdEveryFuel(t, w, checkAnswer{typ: "*imax(w,w)"})
	checkAsk{way: askCtx, ctx: ctx}.holdEveryFuel(t, w, checkAnswer{code: impl.CodeLevel})
	checkAsk{way: askCtx, ctx: ctx, params: []string{"w"}}.holdEveryFuel(t, w, checkAnswer{})
}

// A fuel that is none comes ahead of all else.
func TestCheckingWithWrongFuel(t *testing.T) {
	e, ctx := convEnv(), convContext()
	for _, fuel := range []int{-1, -1 << 62, impl.MaxFuel + 1, 1<<63 - 1} {
		for way := range 3 {
			for _, x := range []impl.Term{variable(0), hole(0), read("[two two]"), read("[ever two]"), {}} {
				checkAsk{way, nil, ctx, x, prop()}.hold(t, e, fuel, checkAnswer{code: impl.CodeInput})
			}
		}
	}
}
