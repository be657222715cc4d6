package tests

import (
	"math/rand"
	"slices"
	"sync"
	"testing"

	"loop.example/g00005/impl"
)

// checkTerms have types in which parts of the term, of the context and of other
// types stand, more than once and with levels.
func checkTerms() []string {
	return []string{
		"#0", "#1", "#2", "#9", "*max(u,v)", "id{max(u,2)}", "Nat.rec{max(u,v)}", "easy",
		"[^ x 0 *max(u,v) [^ y 1 *max(u,v) #1]]",
		"[! x 0 #0 [! y 0 #1 *max(u,v)]]",
		"[any{max(u,1)+1} *max(u,1)]",
		"[[Eq.refl{max(u,v)+2} *max(u,v)+1] *max(u,v)]",
		"[= x *max(u,v)+1 *max(u,v) [^ y 0 #0 [[Eq.refl{max(u,v)+2} *max(u,v)+1] #1]]]",
		"[^ s 0 [[Sigma{max(u,v),0} *max(u,v)] [^ x 0 *max(u,v) Nat]] [. Sigma 1 #0]]",
		"[. Prod 0 #7]",
	}
}

func TestCheckAnswersAreNewMemory(t *testing.T) {
	e, ctx, params := convEnv(), convContext(), checkParams()
	kept = append(kept, e, ctx, params)
	spans := addSpan(envSpans(nil, e), ctx)
	spans = termSpans(addSpan(spans, params), ctx...)
	for _, text := range checkTerms() {
		x := read(text)
		first, _, code, _ := impl.Infer(e, params, ctx, x, 100)
		second, _, _, _ := impl.Infer(e, params, ctx, x, 100)
		if code != 0 {
			t.Errorf("%s: code %d", text, code)
		}
		kept = append(kept, x, first, second)
		spans = termSpans(spans, x, first, second)
	}
	holdApart(t, "inferred types", spans)
}

func TestCheckAnswersStandAlone(t *testing.T) {
	e, ctx, params := convEnv(), convContext(), checkParams()
	for _, text := range checkTerms() {
		x := read(text)
		typ, _, _, _ := impl.Infer(e, params, ctx, x, 100)
		before := copyTerm(typ)
		spoilTerm(typ)
		if written(x) != text || !equalEnvs(e, convEnv()) || !equalLists(ctx, convContext()) || !slices.Equal(params, checkParams()) {
			t.Errorf("%s: the answer shares memory with an argument", text)
		}
		if again, _, _, _ := impl.Infer(e, params, ctx, x, 100); !equalTerms(again, before) {
			t.Errorf("%s: another answer", text)
		}
	}
}

// Nothing is written into an argument, nor behind it.
func TestCheckArgumentsStay(t *testing.T) {
	r := rand.New(rand.NewSource(101))
	e := convEnv()
	before := copyEnv(e)
	m := newStepMaker(r, e)
	for i := range 100 {
		ctx := m.context(3)
		x := m.small(func() impl.Term { return m.open(1+r.Intn(3), 3) })
		y := m.other(x, 3)
		types := make([]impl.Term, 3, 8)
		copy(types, ctx)
		names := append(make([]string, 0, 8), "u", "q")
		a, b := withRoom(x), withRoom(y)
		held := copyTerms(ctx)
		for way := range 3 {
			checkAsk{way, names, types, a, b}.ask(e, r.Intn(50))
		}
		if !equalLists(types, held) || !equalTerms(x, a) || !equalTerms(y, b) || !slices.Equal(names, []string{"u", "q"}) {
			t.Errorf("terms %d: an argument was changed", i)
		}
		if len(types[:4][3].Nodes) != 0 || behindNodes(a) != 0 || behindNodes(b) != 0 || names[:3][2] != "" {
			t.Errorf("terms %d: something was put behind an argument", i)
		}
	}
	if !equalEnvs(e, before) {
		t.Errorf("the environment was changed")
	}
}

// Nothing is kept from call to call: each answer is that of the first call.
func TestCheckAskedAgain(t *testing.T) {
	e, ctx := convEnv(), convContext()
	q := checkAsk{way: askInfer, ctx: ctx, x: read("[[add [slow two]] [slow two]]")}
	for range 3 {
		q.hold(t, e, 12, checkAnswer{typ: "Nat", work: 12})
		q.hold(t, e, 8, checkAnswer{"", 8, impl.CodeFuel, 7})
		q.hold(t, e, 11, checkAnswer{"", 11, impl.CodeFuel, 8})
		// the same names for other things
		other := behind(stepEnv(), declared(impl.KindAxiom, "slow", "", "[! n 0 Nat Nat]", ""))
		checkAsk{way: askInfer, ctx: ctx[:2], x: q.x}.hold(t, other, 100, checkAnswer{typ: "Nat", work: 4})
		checkAsk{way: askInfer, params: []string{"u"}, x: read("*u")}.hold(t, e, 0, checkAnswer{typ: "*u+1"})
		checkAsk{way: askInfer, params: []string{"v"}, x: read("*u")}.hold(t, e, 0, checkAnswer{code: impl.CodeLevel})
	}
}

// Several may ask at the same time; each is told the same.
func TestCheckAskedBySeveral(t *testing.T) {
	e, ctx := convEnv(), convContext()
	var wait sync.WaitGroup
	for range 4 {
		wait.Go(func() {
			for range 3 {
				checkAsk{way: askInfer, ctx: ctx, x: read("[[add [slow two]] [slow #5]]")}.hold(t, e, 100, checkAnswer{"", 11, impl.CodeArg, 7})
				checkAsk{way: askCheck, ctx: ctx, x: read("[slow two]"), want: read("[[id{2} *1] Nat]")}.hold(t, e, 100, checkAnswer{work: 9})
				checkAsk{way: askCtx, ctx: ctx}.hold(t, e, 100, checkAnswer{work: 6})
			}
		})
	}
	wait.Wait()
}
