package tests

import (
	"strings"
	"testing"

	"loop.example/g00005/impl"
)

// holdLimit is for terms whose step gives more nodes with more padding. It
// gives by how many the sizes near the limit differ from it.
func holdLimit(t *testing.T, what string, e impl.Env, kind int, make func(pad int) impl.Term) []int {
	t.Helper()
	w := slowStepsIn(e)
	least := stepSize(w, make(1))
	grows := (stepSize(w, make(3)) - least) / 2
	at := 1 + (impl.MaxNodes-least)/grows
	var sizes []int
	for pad := at - 1; pad <= at+2; pad++ {
		x := make(pad)
		if !impl.TermOk(x) {
			t.Fatalf("%s with %d: too great itself", what, pad)
		}
		want, wantKind := w.next(treeOf(x))
		size := want.size()
		sizes = append(sizes, size-impl.MaxNodes)
		got, gotKind, code := impl.Step(e, x)
		_, work, whnfCode := impl.Whnf(e, x, true, 1)
		switch {
		case wantKind != kind:
			t.Fatalf("%s with %d: kind %d", what, pad, wantKind)
		case size > impl.MaxNodes:
			if code != impl.CodeSize || gotKind != 0 || len(got.Nodes) != 0 || whnfCode != impl.CodeSize || work != 1 {
				t.Errorf("%s with %d nodes: kind %d, code %d; work %d, code %d", what, size, gotKind, code, work, whnfCode)
			}
		case code != 0 || gotKind != kind || !equalTerms(got, want.term()) || whnfCode == impl.CodeSize:
			t.Errorf("%s with %d nodes: kind %d, code %d; code %d", what, size, gotKind, code, whnfCode)
		}
	}
	return sizes
}

func stepSize(w *slowSteps, x impl.Term) int {
	y, _ := w.next(treeOf(x))
	return y.size()
}

// padded has a term of so many nodes at each @ of a text, and one of 5001 nodes
// at each $.
func padded(text string) func(pad int) impl.Term {
	return paddedWith(text, 5001)
}

// paddedWith has a term of another number of nodes at each $.
func paddedWith(text string, much int) func(pad int) impl.Term {
	return func(pad int) impl.Term {
		x := treeOf(read(strings.NewReplacer("@", "Pad", "$", "Much").Replace(text)))
		filling := map[string]tree{"Pad": treeOf(sized(pad)), "Much": treeOf(sized(much))}
		return x.changed(0, func(x tree, _ int) tree {
			if f, ok := filling[x.node.S]; ok {
				return f
			}
			return x
		}).term()
	}
}

func TestStepsToTheLimitOfNodes(t *testing.T) {
	t.Parallel()
	e := behind(stepEnv(), impl.Decl{Kind: impl.KindDef, Name: "large", Type: read("Nat"), Value: sized(12001)})
	met := map[[2]int]bool{}
	for _, c := range []struct {
		text string
		kind int
	}{
		{"[[[^ x 0 Nat [#0 #0]] $] @]", impl.StepBeta},
		{"[[[[Nat.rec{1} #0] @] #2] [[^ x 0 Nat [#0 #0]] $]]", impl.StepBeta},
		{"[[= x Nat $ [#0 #0]] @]", impl.StepLet},
		{"[[[[[Nat.rec{1} #0] #1] $] [Nat.succ #3]] @]", impl.StepCase},
		{"[[[[[[Prod.rec{1,0,0} #0] #1] #2] #3] [#4 $]] @]", impl.StepEta},
		{"[[^ x 0 Nat [#0 #0]] @]", impl.StepBeta},
		{"[[[[^ x 0 Nat [#0 #0]] @] #1] #2]", impl.StepBeta},
		{"[[^ x 0 Nat [^ y 0 #0 [#1 [#0 #1]]]] [#5 @]]", impl.StepBeta},
		{"[[[[Nat.rec{1} #0] #1] #2] [[^ x 0 Nat [#0 #0]] @]]", impl.StepBeta},
		{"[[. Box 0 [[^ x 0 Nat [#0 #0]] @]] #0]", impl.StepBeta},
		{"[[[[[[Quot.lift{0,0} #0] #1] #2] #3] #4] [[^ x 0 Nat [#0 #0]] @]]", impl.StepBeta},
		{"[= x Nat @ [#0 #0]]", impl.StepLet},
		{"[[= x Nat @ [#0 [^ y 0 Nat #1]]] #3]", impl.StepLet},
		{"[large @]", impl.StepDef},
		{"[[[[[Nat.rec{1} #0] @] #2] large] #8]", impl.StepDef},
		{"[[. Box 0 large] @]", impl.StepDef},
		{"[[[[Nat.rec{1} #0] #1] @] [Nat.succ #3]]", impl.StepCase},
		{"[[[[Nat.rec{1} #0] #1] #2] [Nat.succ @]]", impl.StepCase},
		{"[[[[Bush.rec{1} #0] @] #2] [[[Bush.node #3] #4] #5]]", impl.StepCase},
		{"[[[[[[[Tree.rec{1,q} #0] @] #2] #3] #8] [[[[[Tree.node{3} #9] #4] #5] #6] #7]] #1]", impl.StepCase},
		{"[[[[[[Tree.rec{1,q} #0] #1] #2] #3] #8] [[[[[Tree.node{3} [#9 @]] #4] #5] #6] #7]]", impl.StepCase},
		{"[[[[[Prod.rec{1,0,0} #0] #1] #2] #3] [#4 @]]", impl.StepEta},
		{"[[[[[Nat.rec{1} #0] #1] #2] [[[[[Prod.rec{1,0,0} #0] #1] #2] #3] [#4 @]]] #5]", impl.StepEta},
	} {
		for _, by := range holdLimit(t, c.text, e, c.kind, padded(c.text)) {
			met[[2]int{c.kind, by}] = true
		}
	}
	for _, kind := range []int{impl.StepBeta, impl.StepLet, impl.StepDef, impl.StepCase, impl.StepEta} {
		if !met[[2]int{kind, 0}] || !met[[2]int{kind, 1}] {
			t.Errorf("kind %d: the limit was not met", kind)
		}
	}
}

// Steps that leave something out come back from the limit.
func TestStepsOfTheGreatestTerms(t *testing.T) {
	e := stepEnv()
	for _, c := range []struct {
		text string
		kind int
		out  string
	}{
		{"[[^ x 0 @ some] #0]", impl.StepBeta, "some"},
		{"[= x @ #0 #0]", impl.StepLet, "#0"},
		{"[[[[Nat.rec{1} #0] #1] @] Nat.zero]", impl.StepCase, "#1"},
		{"[[[Unit.rec{1} @] #1] #2]", impl.StepEta, "#1"},
		{"[. Prod 1 [[[[Prod.mk{0,0} #0] #1] @] #2]]", impl.StepProj, "#2"},
		{"[[[[[[Quot.lift{0,0} #0] #1] #2] #3] @] [[[Quot.mk{7} #5] #6] #7]]", impl.StepQuot, "[#3 #7]"},
	} {
		x := padded(c.text)(1)
		x = padded(c.text)(1 + impl.MaxNodes - len(x.Nodes))
		if len(x.Nodes) != impl.MaxNodes {
			t.Fatalf("%s: %d nodes", c.text, len(x.Nodes))
		}
		holdStep(t, e, x, c.kind, c.out)
		holdWhnf(t, e, x, false, 1, c.out, 1, 0)
	}
	x := app(sized(10001), sized(9998))
	holdStep(t, e, x, 0, written(x))
	holdNormal(t, e, x, 0, written(x), 0, 0)
}

// Variables whose number would be too great, and levels that would be.
func TestStepsToOtherLimits(t *testing.T) {
	long := levelsOf("u")[0]
	for impl.LevelOk(succ(long, 1)) {
		long = succ(long, 1)
	}
	e := stepEnv()
	node := func(h, a, x, m, f, g impl.Term, level impl.Level) impl.Term {
		made := app(constant("Tree.node", zero()), a, x, m, f, g)
		return app(constant("Tree.rec", zero(), level), h, h, h, h, h, made)
	}
	v, far := variable(0), func(less int) impl.Term { return variable(impl.MaxNodes - 1 - less) }
	for i, c := range []struct {
		x    impl.Term
		code int
	}{
		{app(read("[^ x 0 Nat [^ y 0 Nat #1]]"), far(0)), 0},
		{app(read("[^ x 0 Nat [^ y 0 Nat [^ z 0 Nat #2]]]"), far(0)), impl.CodeSize},
		{app(read("[^ x 0 Nat [^ y 0 Nat [^ z 0 Nat #2]]]"), far(1)), 0},
		{app(read("[^ x 0 Nat [^ y 0 Nat [^ z 0 Nat #1]]]"), far(0)), 0},
		{let("x", prop(), far(0), read("[! y 0 Nat [= z Nat Nat #2]]")), impl.CodeSize},
		// several places, the deepest one first, and variables within what is put
		{app(read("[^ x 0 Nat [[^ y 0 Nat [^ z 0 Nat #2]] #0]]"), far(0)), impl.CodeSize},
		{app(read("[^ x 0 Nat [[^ y 0 Nat [^ z 0 Nat #2]] #0]]"), far(1)), 0},
		{app(read("[^ x 0 Nat [^ y 0 Nat [^ z 0 Nat [^ w 0 Nat #3]]]]"), lam("a", 0, prop(), lam("b", 0, prop(), far(1)))), impl.CodeSize},
		{app(read("[^ x 0 Nat [^ y 0 Nat [^ z 0 Nat [^ w 0 Nat #3]]]]"), lam("a", 0, prop(), lam("b", 0, prop(), far(2)))), 0},
		{node(far(1), v, v, v, v, v, zero()), 0},
		{node(far(0), v, v, v, v, v, zero()), impl.CodeSize},
		// the parameter stands under one binder, the index under two, fields under their own
		{node(v, far(0), v, v, v, v, zero()), 0},
		{node(v, v, far(0), v, v, v, zero()), 0},
		{node(v, v, v, far(1), v, v, zero()), 0},
		{node(v, v, v, far(0), v, v, zero()), impl.CodeSize},
		{node(v, v, v, v, far(0), v, zero()), 0},
		{node(v, v, v, v, v, far(1), zero()), 0},
		{node(v, v, v, v, v, far(0), zero()), impl.CodeSize},
		{node(v, v, v, v, v, v, long), impl.CodeSize},
		{app(constant("Tree.rec", zero(), long), v, v, v, v, v, read("[Tree.leaf{0} #0]")), 0},
		{constant("id", long), 0},
		{constant("sorts", long, zero()), impl.CodeSize},
		{constant("sorts", zero(), long), impl.CodeSize},
		{app(read("[[[Nat.rec{1} #0] #1] #2]"), constant("sorts", zero(), long)), impl.CodeSize},
	} {
		got, kind, code := impl.Step(e, c.x)
		if code != c.code || (code == 0) != impl.TermOk(got) || (code == 0) != (kind != 0) {
			t.Errorf("case %d: kind %d, code %d, %d nodes", i, kind, code, len(got.Nodes))
		}
		if c.code == 0 {
			y, _ := slowStepsIn(e).next(treeOf(c.x))
			holdStep(t, e, c.x, kind, y.text())
		} else {
			holdWhnf(t, e, c.x, true, 1, "", 1, c.code)
			holdWhnf(t, e, c.x, true, 0, "", 0, impl.CodeFuel)
			holdNormal(t, e, c.x, 1, "", 1, c.code)
		}
	}
	if name := impl.Blocked(e, constant("sorts", long, zero())); name != "sorts" {
		t.Errorf("blocked by %q", name)
	}
	holdWhnf(t, e, constant("sorts", long, zero()), false, 0, written(constant("sorts", long, zero())), 0, 0)
}

// A step whose term is far too great is soon refused.
func TestStepsFarBeyondTheLimit(t *testing.T) {
	t.Parallel()
	const fields = 1200
	text := "Wide"
	for range fields {
		text = "[! w 0 [! k 0 Nat Wide] " + text + "]"
	}
	e := behind(stepEnv(), family("Wide", "", 0, "*1", "Wide.end", "Wide", "Wide.mk", text))
	holdEnv(t, "with a wide family", e, true)
	made := constant("Wide.mk")
	var args []impl.Term
	for range fields {
		args = append(args, variable(7))
	}
	made, _ = impl.Apply(made, args)
	rec := constant("Wide.rec", zero())
	open := padded("[@ #0]")(9001)
	for _, c := range []struct {
		minor      impl.Term
		kind, code int
	}{{variable(0), impl.StepCase, 0}, {open, 0, impl.CodeSize}} {
		x, _ := impl.Apply(rec, []impl.Term{variable(0), c.minor, variable(1), made})
		got, kind, code := impl.Step(e, x)
		if code != c.code || kind != c.kind || (code == 0) != impl.TermOk(got) {
			t.Errorf("kind %d, code %d", kind, code)
		}
		if code == 0 {
			want, _ := slowStepsIn(e).next(treeOf(x))
			holdStep(t, e, x, kind, want.text())
		}
	}
	twice := lam("x", 0, prop(), spread(9000, variable(0)))
	if _, _, code := impl.Step(e, app(twice, open)); code != impl.CodeInput {
		t.Errorf("code %d for a term that is too great itself", code)
	}
	twice = lam("x", 0, prop(), spread(500, variable(0)))
	if _, _, code := impl.Step(e, app(twice, open)); code != impl.CodeSize {
		t.Errorf("code %d", code)
	}
}
