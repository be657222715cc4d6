package tests

import (
	"math/rand"
	"strconv"
	"sync"
	"testing"

	"loop.example/g00005/impl"
)

// typeAnswers are all answers of the chapter, levels as TermSorts that share
// their memory.
func typeAnswers(e impl.Env, ctx []impl.Term, x impl.Term, fuel int) []impl.Term {
	impl.CtxOk(e, ctx)
	typ, _, _ := impl.TypeOf(e, ctx, x, fuel)
	level, _, _ := impl.SortOf(e, ctx, x, fuel)
	sort := impl.Term{Nodes: []impl.Node{{K: impl.TermSort, Levels: []impl.Level{level}}}}
	answers := []impl.Term{typ, sort}
	for n := range 4 {
		for _, s := range append([]impl.Term{x}, ctx...) {
			field, _ := impl.FieldType(e, s, n, x)
			answers = append(answers, field)
		}
	}
	return answers
}

// memoryTerms have answers in which parts of the term, of the context and of
// types stand, more than once and with levels.
func memoryTerms() []string {
	return []string{
		"#0", "#1", "#4", "#5",
		"*max(u,v)",
		"id{max(u,2)}",
		"Two",
		"[[[All{1,max(u,w)} #5] two] *max(u,w)]",
		"[[Prod{u,v} *max(u,v)] *max(u,v)]",
		"[^ x 0 *max(u,w) [^ y 1 *max(u,w) #1]]",
		"[! x 0 #5 [! y 0 #6 *max(u,w)]]",
		"[! x 0 set #6]",
		"[[any{max(1,w)} [! x 0 *max(u,w) *max(u,w)]] two]",
		"[= x *max(u,w) any{max(u,w)} [^ y 0 *max(u,w) [#1 *max(u,w)]]]",
		"[. Sigma 1 [any{u} [[Sigma{max(u,v),0} *max(u,v)] [^ x 0 *max(u,v) #0]]]]",
		"[. Prod 0 [any{u} [[Prod{max(u,v),0} *max(u,v)] *max(u,v)]]]",
	}
}

func TestTypeAnswersAreNewMemory(t *testing.T) {
	e, ctx := typeEnv(), plainContext()
	kept = append(kept, e, ctx)
	spans := addSpan(envSpans(nil, e), ctx)
	spans = termSpans(spans, ctx...)
	for _, text := range memoryTerms() {
		x := read(text)
		first, second := typeAnswers(e, ctx, x, 100), typeAnswers(e, ctx, x, 100)
		kept = append(kept, x, first, second)
		spans = termSpans(spans, x)
		spans = termSpans(spans, first...)
		spans = termSpans(spans, second...)
	}
	holdApart(t, "types", spans)
}

func TestTypeAnswersStandAlone(t *testing.T) {
	t.Parallel()
	e, ctx := typeEnv(), plainContext()
	for _, text := range memoryTerms() {
		x := read(text)
		var before []impl.Term
		for _, y := range typeAnswers(e, ctx, x, 100) {
			before = append(before, copyTerm(y))
		}
		for _, y := range typeAnswers(e, ctx, x, 100) {
			spoilTerm(y)
		}
		if written(x) != text || !equalEnvs(e, typeEnv()) || !equalLists(ctx, plainContext()) {
			t.Errorf("%s: an answer shares memory with an argument", text)
		}
		if !equalLists(typeAnswers(e, ctx, x, 100), before) {
			t.Errorf("%s: another answer", text)
		}
	}
}

func TestTypeArgumentsStay(t *testing.T) {
	t.Parallel()
	r := rand.New(rand.NewSource(84))
	e := typeEnv()
	before := copyEnv(e)
	m := newStepMaker(r, e)
	for i := range 100 {
		ctx := m.context(3)
		x := m.small(func() impl.Term { return m.open(1+r.Intn(3), 3) })
		// room behind the lists: what is put there is a write, too
		types := make([]impl.Term, 3, 8)
		copy(types, ctx)
		room := make([]impl.Node, len(x.Nodes), len(x.Nodes)+5)
		copy(room, x.Nodes)
		held := copyTerms(ctx)
		typeAnswers(e, types, impl.Term{Nodes: room}, r.Intn(20))
		if !equalLists(types, held) || !equalTerms(x, impl.Term{Nodes: room}) {
			t.Errorf("term %d: an argument was changed", i)
		}
		if len(types[:4][3].Nodes) != 0 || room[:cap(room)][len(room)].K != 0 {
			t.Errorf("term %d: something was put behind an argument", i)
		}
	}
	if !equalEnvs(e, before) {
		t.Errorf("the environment was changed")
	}
}

// Several may ask at the same time; each is told the same.
func TestTypesAskedBySeveral(t *testing.T) {
	e, ctx := typeEnv(), plainContext()
	var wait sync.WaitGroup
	for i := range 4 {
		wait.Go(func() {
			for range 3 {
				got, work, code := impl.TypeOf(e, ctx, read("[! x 0 set [! y 0 [[. Sigma 1 #1] #4] statement]]"), 100)
				holdWork(t, strconv.Itoa(i), got, work, code, "*imax(1,imax(1,0))", 5, 0)
			}
		})
	}
	wait.Wait()
}

func TestMaxCtx(t *testing.T) {
	if impl.MaxCtx != 200 {
		t.Errorf("MaxCtx is %d", impl.MaxCtx)
	}
}
