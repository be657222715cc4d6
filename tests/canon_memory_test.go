package tests

import (
	"math/rand"
	"sync"
	"testing"

	"loop.example/g00005/impl"
)

// canonAnswers are both answers of the chapter.
func canonAnswers(e impl.Env, ctx []impl.Term, x impl.Term, fuel int) []impl.Term {
	form, _, _ := impl.Canon(e, ctx, x, fuel)
	typ, _, _ := impl.CanonType(e, ctx, x, fuel)
	return []impl.Term{form, typ}
}

// canonMemoryTerms have forms in which parts of the term, of the context and of
// the environment stand, more than once and with levels.
func canonMemoryTerms() []string {
	return []string{
		"#0", "#1", "#2", "#3", "*max(u,w)", "*1", "id{max(u,2)}", "[= x *max(u,w)+1 *max(u,w) #0]",
		"[^ x 0 *max(u,w) [^ y 1 *max(u,w) #1]]",
		"[! x 0 *max(u,w) [! y 0 #0 *max(u,w)]]",
		"[[Prod{u,v} *max(u,v)] *max(u,v)]",
		"[any{max(u,1)} [[Prod{max(u,v),0} *max(u,v)] *max(u,v)]]",
		"[[[[Prod.mk{1,1} *max(u,w)] *max(u,w)] [any{max(u,w)+1} *max(u,w)]] [any{max(u,w)+1} *max(u,w)]]",
		"[. Prod 0 [any{u} [[Prod{max(u,v),0} *max(u,v)] *max(u,v)]]]",
		"[^ x 2 Nat [any{max(1,w)} *max(u,w)]]",
		"[[[Eq{max(1,w)} *max(u,w)] [any{max(1,w)} *max(u,w)]] [any{max(1,w)} *max(u,w)]]",
		"[[by #3] easy]",
	}
}

func canonMemoryContext() []impl.Term {
	return contextOf("Nat", "[[Prod{max(0,0),0} Nat] [! y 1 Nat *max(u,w)]]", "[! y 1 *max(u,w) *max(u,w)]", "*max(u,w)")
}

func TestCanonAnswersAreNewMemory(t *testing.T) {
	e, ctx := canonEnv(), canonMemoryContext()
	kept = append(kept, e, ctx)
	spans := addSpan(envSpans(nil, e), ctx)
	spans = termSpans(spans, ctx...)
	for _, text := range canonMemoryTerms() {
		x := read(text)
		first, second := canonAnswers(e, ctx, x, 300), canonAnswers(e, ctx, x, 300)
		if len(first[0].Nodes)+len(first[1].Nodes) == 0 {
			t.Errorf("%s has no form", text)
		}
		kept = append(kept, x, first, second)
		spans = termSpans(spans, x)
		spans = termSpans(spans, first...)
		spans = termSpans(spans, second...)
	}
	holdApart(t, "forms", spans)
}

func TestCanonAnswersStandAlone(t *testing.T) {
	t.Parallel()
	e, ctx := canonEnv(), canonMemoryContext()
	for _, text := range canonMemoryTerms() {
		x := read(text)
		before := copyTerms(canonAnswers(e, ctx, x, 300))
		for _, y := range canonAnswers(e, ctx, x, 300) {
			spoilTerm(y)
		}
		if written(x) != text || !equalEnvs(e, canonEnv()) || !equalLists(ctx, canonMemoryContext()) {
			t.Errorf("%s: an answer shares memory with an argument", text)
		}
		if !equalLists(canonAnswers(e, ctx, x, 300), before) {
			t.Errorf("%s: another answer", text)
		}
	}
}

// Nothing is written into an argument, nor behind it.
func TestCanonArgumentsStay(t *testing.T) {
	t.Parallel()
	r := rand.New(rand.NewSource(136))
	e := canonEnv()
	before := copyEnv(e)
	m := newStepMaker(r, e)
	for i := range 100 {
		ctx := m.context(3)
		x := m.small(func() impl.Term { return m.open(1+r.Intn(3), 3) })
		// room behind the lists: what is put there is a write, too
		types := make([]impl.Term, 3, 8)
		copy(types, ctx)
		room, held := withRoom(x), copyTerms(ctx)
		canonAnswers(e, types, room, r.Intn(60))
		if !equalLists(types, held) || !equalTerms(x, room) {
			t.Errorf("term %d: an argument was changed", i)
		}
		if len(types[:4][3].Nodes) != 0 || behindNodes(room) != 0 {
			t.Errorf("term %d: something was put behind an argument", i)
		}
	}
	if !equalEnvs(e, before) {
		t.Errorf("the environment was changed")
	}
}

// Nothing is kept from call to call: each answer is that of the first call.
func TestCanonAskedAgain(t *testing.T) {
	e, ctx := convEnv(), convContext()
	q := canonAsk{askCanon, ctx, read("[Nat.succ three]")}
	for range 3 {
		q.hold(t, e, 6, "", 6, impl.CodeFuel)
		q.hold(t, e, 100, "[Nat.succ [Nat.succ [Nat.succ [Nat.succ Nat.zero]]]]", 7, 0)
		q.hold(t, e, 5, "", 5, impl.CodeFuel)
		// the same names for other things
		other := behind(stepEnv(), declared(impl.KindAxiom, "three", "", "Nat", ""))
		q.hold(t, other, 100, "[Nat.succ three]", 2, 0)
	}
}

// Several may ask at the same time; each is told the same.
func TestCanonAskedBySeveral(t *testing.T) {
	e, ctx := convEnv(), convContext()
	var wait sync.WaitGroup
	for range 4 {
		wait.Go(func() {
			for range 3 {
				(canonAsk{askCanon, ctx, read("[of #9]")}).hold(t, e, 100, "[of [^ x 0 Nat [#10 #0]]]", 5, 0)
				(canonAsk{askCanon, ctx, read("pair")}).hold(t, e, 100, "[[[[Prod.mk{0,0} Nat] Unit] [. Prod 0 pair]] Unit.star]", 8, 0)
				(canonAsk{askCanonType, ctx, read("[pow two]")}).hold(t, e, 100, "[! x 0 Nat [! x 0 Nat Nat]]", 14, 0)
			}
		})
	}
	wait.Wait()
}
