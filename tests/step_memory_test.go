package tests

import (
	"math/rand"
	"strconv"
	"sync"
	"testing"

	"loop.example/g00005/impl"
)

// stepAnswers are all answers that are terms.
func stepAnswers(e impl.Env, x impl.Term, fuel int) []impl.Term {
	step, _, _ := impl.Step(e, x)
	whnf, _, _ := impl.Whnf(e, x, true, fuel)
	shallow, _, _ := impl.Whnf(e, x, false, fuel)
	normal, _, _ := impl.Normal(e, x, fuel)
	impl.Blocked(e, x)
	return []impl.Term{step, whnf, shallow, normal}
}

// memoryTexts have answers in which parts of the term, of values and of types
// stand more than once, with levels.
func memoryTexts() []string {
	return []string{
		"#0",
		"*max(u,v)",
		"id{max(u,2)}",
		"[[#0 sorts{u,v}] sorts{u,v}]",
		"[[^ x 0 *max(u,w) [[#0 #0] any{imax(u,w)}]] any{max(1,w)}]",
		"[. Prod 0 [[[[Prod.mk{u,u} *u] *u] *max(u,v)] #2]]",
		"[[[[[Prod.rec{1,u,v} Nat] Nat] #0] #1] [#2 *u]]",
		"[[[[[[Tree.rec{1,max(u,v)} #0] #1] #2] #3] #8] [[[[[Tree.node{3} any{u}] #4] #5] any{u}] #7]]",
		"[[[Nat.rec{1} #0] id{u}] [Nat.succ Nat.zero]]",
	}
}

func TestStepAnswersAreNewMemory(t *testing.T) {
	e := stepEnv()
	kept = append(kept, e)
	spans := envSpans(nil, e)
	for _, text := range memoryTexts() {
		x := read(text)
		first, second := stepAnswers(e, x, 100), stepAnswers(e, x, 100)
		kept = append(kept, x, first, second)
		spans = termSpans(spans, x)
		spans = termSpans(spans, first...)
		spans = termSpans(spans, second...)
	}
	holdApart(t, "steps", spans)
}

func TestStepAnswersStandAlone(t *testing.T) {
	e := stepEnv()
	for _, text := range memoryTexts() {
		x := read(text)
		var before []string
		for _, y := range stepAnswers(e, x, 100) {
			before = append(before, told(y))
		}
		for _, y := range stepAnswers(e, x, 100) {
			spoilTerm(y)
		}
		if written(x) != text || !equalEnvs(e, stepEnv()) {
			t.Errorf("%s: an answer shares memory with an argument", text)
		}
		for i, y := range stepAnswers(e, x, 100) {
			if told(y) != before[i] {
				t.Errorf("%s: answer %d is another one", text, i)
			}
		}
	}
}

func TestStepArgumentsStay(t *testing.T) {
	r := rand.New(rand.NewSource(75))
	e := stepEnv()
	before := copyEnv(e)
	m := newStepMaker(r, e)
	for i := range 150 {
		x := m.small(func() impl.Term { return m.busy(2+r.Intn(3), 0) })
		// room behind the nodes: what is put there is a write, too
		room := make([]impl.Node, len(x.Nodes), len(x.Nodes)+5)
		copy(room, x.Nodes)
		y := impl.Term{Nodes: room}
		stepAnswers(e, y, r.Intn(20))
		if !equalTerms(x, y) || room[:cap(room)][len(room)].K != 0 {
			t.Errorf("term %d was changed", i)
		}
	}
	if !equalEnvs(e, before) {
		t.Errorf("the environment was changed")
	}
}

// Several may ask at the same time; each is told the same.
func TestStepsAskedBySeveral(t *testing.T) {
	e := stepEnv()
	var wait sync.WaitGroup
	for i := range 4 {
		wait.Go(func() {
			for _, c := range plainSteps() {
				got, kind, code := impl.Step(e, read(c.in))
				if code != 0 || kind != c.kind || told(got) != c.out {
					t.Errorf("%s: kind %d, code %d\n%s", strconv.Itoa(i)+": "+c.in, kind, code, told(got))
				}
			}
		})
	}
	wait.Wait()
}
