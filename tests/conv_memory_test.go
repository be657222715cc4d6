package tests

import (
	"math/rand"
	"sync"
	"testing"

	"loop.example/g00005/impl"
)

// Nothing is written into an argument, nor behind it. (The answers are no lists.)
func TestConvArgumentsStay(t *testing.T) {
	r := rand.New(rand.NewSource(96))
	e := convEnv()
	before := copyEnv(e)
	m := newStepMaker(r, e)
	for i := range 100 {
		ctx := m.context(3)
		x := m.small(func() impl.Term { return m.open(1+r.Intn(3), 3) })
		y := m.other(x, 3)
		// room behind the lists: what is put there is a write, too
		types := make([]impl.Term, 3, 8)
		copy(types, ctx)
		a, b := withRoom(x), withRoom(y)
		held := copyTerms(ctx)
		for way := range 3 {
			convAsk{way, types, a, b}.ask(e, r.Intn(50))
		}
		if !equalLists(types, held) || !equalTerms(x, a) || !equalTerms(y, b) {
			t.Errorf("terms %d: an argument was changed", i)
		}
		if len(types[:4][3].Nodes) != 0 || behindNodes(a) != 0 || behindNodes(b) != 0 {
			t.Errorf("terms %d: something was put behind an argument", i)
		}
	}
	if !equalEnvs(e, before) {
		t.Errorf("the environment was changed")
	}
}

func withRoom(x impl.Term) impl.Term {
	room := make([]impl.Node, len(x.Nodes), len(x.Nodes)+5)
	copy(room, x.Nodes)
	return impl.Term{Nodes: room}
}

// behindNodes is the kind of what stands just behind a term's nodes.
func behindNodes(x impl.Term) int {
	return x.Nodes[:len(x.Nodes)+1][len(x.Nodes)].K
}

// Nothing is kept from call to call: each answer is that of the first call.
func TestConvAskedAgain(t *testing.T) {
	e, ctx := convEnv(), convContext()
	short := convAsk{askConv, ctx, read("four"), read("[Nat.succ three]")}
	for range 3 {
		short.hold(t, e, 10, false, 10, impl.CodeFuel)
		short.hold(t, e, 16, true, 16, 0)
		short.hold(t, e, 15, false, 15, impl.CodeFuel)
		// the same names for other things
		other := behind(stepEnv(), declared(impl.KindAxiom, "three", "", "Nat", ""))
		short.hold(t, other, 100, false, 13, 0)
	}
}

// Several may ask at the same time; each is told the same.
func TestConvAskedBySeveral(t *testing.T) {
	e, ctx := convEnv(), convContext()
	var wait sync.WaitGroup
	for range 4 {
		wait.Go(func() {
			for range 3 {
				(convAsk{askConv, ctx, read("four"), read("[Nat.succ three]")}).hold(t, e, 100, true, 16, 0)
				(convAsk{askTypes, ctx, read("[! x 0 Set Nat]"), read("[! y 1 *1 Nat]")}).hold(t, e, 100, true, 4, 0)
				(convAsk{way: askIrrelevant, ctx: ctx, a: read("statement")}).hold(t, e, 100, true, 3, 0)
			}
		})
	}
	wait.Wait()
}
