package tests

import (
	"slices"
	"strings"
	"testing"

	"loop.example/g00005/impl"
)

// stepCase is a term that makes a step.
type stepCase struct {
	in   string
	kind int
	out  string
}

// plainSteps are of every kind, each at the head. The terms behind them have no
// constructor as their head, so that they may stand at any place.
func plainSteps() []stepCase {
	return []stepCase{
		{"[[^ x 0 Nat [add #0]] two]", impl.StepBeta, "[add two]"},
		{"[[^ x 0 Nat #0] two]", impl.StepBeta, "two"},
		{"[[^ x 2 Nat some] two]", impl.StepBeta, "some"},
		{"[[^ x 0 Nat #0] #0]", impl.StepBeta, "#0"},
		{"[[^ x 0 Nat [^ y 2 #0 [#1 #2]]] [add #3]]", impl.StepBeta, "[^ y 2 [add #3] [[add #4] #1]]"},
		{"[[[^ x 0 Nat #3] two] #1]", impl.StepBeta, "[#2 #1]"},
		{"[[[[^ x 0 Nat #0] some] #1] two]", impl.StepBeta, "[[some #1] two]"},
		{"[[[^ x 0 Nat [^ y 0 Nat #1]] #4] #5]", impl.StepBeta, "[[^ y 0 Nat #5] #5]"},
		{"[= x Nat two [add #0]]", impl.StepLet, "[add two]"},
		{"[= x Nat two #0]", impl.StepLet, "two"},
		{"[= x Nat #0 [^ y 0 #2 [#1 #2]]]", impl.StepLet, "[^ y 0 #1 [#1 #1]]"},
		{"[[= x Nat some #0] #4]", impl.StepLet, "[some #4]"},
		{"[[= x Nat [^ z 0 Nat #4] #0] two]", impl.StepLet, "[[^ z 0 Nat #4] two]"},
		{"four", impl.StepDef, "[[add two] two]"},
		{"[[add #0] #1]", impl.StepDef, "[[" + addValue + " #0] #1]"},
		{"id{max(u,2)}", impl.StepDef, "[^ A 1 *max(u,2) [^ a 0 #0 #0]]"},
		{"[id{1} Nat]", impl.StepDef, "[[^ A 1 *1 [^ a 0 #0 #0]] Nat]"},
		{"sorts{1,q}", impl.StepDef, "[^ x 0 *1 [! y 2 #0 *max(1,q)]]"},
		{"[sorts{b,a} #7]", impl.StepDef, "[[^ x 0 *b [! y 2 #0 *max(b,a)]] #7]"},
		{"[[[[Nat.rec{1} #0] #1] #2] Nat.zero]", impl.StepCase, "#1"},
		{"[[[[Nat.rec{u+1} #0] two] #2] Nat.zero]", impl.StepCase, "two"},
		{"[[[[Nat.rec{1} #0] #1] #2] [Nat.succ #3]]", impl.StepCase, "[[#2 #3] [[[[Nat.rec{1} #0] #1] #2] #3]]"},
		{"[[[[[Nat.rec{1} #0] #1] #2] [Nat.succ two]] #9]", impl.StepCase, "[[[#2 two] [[[[Nat.rec{1} #0] #1] #2] two]] #9]"},
		{"[[[Unit.rec{1} #0] #1] #2]", impl.StepEta, "#1"},
		{"[[[[Unit.rec{1} #0] #1] #2] #3]", impl.StepEta, "[#1 #3]"},
		{"[[[[Box.rec{1,0} Nat] #0] #1] #2]", impl.StepEta, "[#1 [. Box 0 #2]]"},
		{"[[[[[Prod.rec{1,0,0} Nat] Nat] #0] #1] [#2 #3]]", impl.StepEta, "[[#1 [. Prod 0 [#2 #3]]] [. Prod 1 [#2 #3]]]"},
		{"[[[[[[Prod.rec{1,0,0} Nat] Nat] #0] some] ?3] *u]", impl.StepEta, "[[[some [. Prod 0 ?3]] [. Prod 1 ?3]] *u]"},
		{"[. Prod 0 [[[[Prod.mk{0,0} Nat] Nat] some] #1]]", impl.StepProj, "some"},
		{"[. Prod 1 [[[[Prod.mk{0,0} Nat] Nat] some] #1]]", impl.StepProj, "#1"},
		{"[[[. Prod 1 [[[[Prod.mk{0,0} Nat] Nat] some] two]] #8] #9]", impl.StepProj, "[[two #8] #9]"},
		{"[. Box 0 [[Box.mk{3} Nat] [. Box 0 #0]]]", impl.StepProj, "[. Box 0 #0]"},
		{"[[[[[[Quot.lift{0,0} #0] #1] #2] #3] #4] [[[Quot.mk{0} #5] #6] #7]]", impl.StepQuot, "[#3 #7]"},
		{"[[[[[[[[Quot.lift{u,1} #0] #1] #2] some] #4] [[[Quot.mk{7} #5] #6] two]] #8] #9]", impl.StepQuot, "[[[some two] #8] #9]"},
	}
}

// placesOfSteps are texts around terms whose step is then the whole's.
func placesOfSteps() []string {
	return []string{
		"@",
		"[@ #7]",
		"[[@ #7] two]",
		"[[[[Nat.rec{1} #1] #2] #3] @]",
		"[[[[[[Nat.rec{u} two] #2] #3] @] #9] #10]",
		"[[[[[[Vec.rec{1,0} #1] #2] #3] #4] two] @]",
		"[[[[[Prod.rec{1,0,0} #1] #2] #3] #4] @]",
		"[[[Unit.rec{1} #1] #2] @]",
		"[[[[Unit.rec{1} #1] #2] @] two]",
		"[[Empty.rec{1} #1] @]",
		"[. Prod 0 @]",
		"[[. Prod 1 @] two]",
		"[[[[[[Quot.lift{0,0} two] #1] #2] #3] #4] @]",
		"[[[[[[[[Quot.lift{0,0} #0] #1] #2] #3] #4] @] #6] #7]",
		"[[[[Nat.rec{1} #1] #2] #3] [. Box 0 [[[[[[Quot.lift{0,0} #0] #1] #2] #3] #4] [[[[[Prod.rec{1,0,0} #1] #2] #3] #4] [@ #5]]]]]",
	}
}

func TestStepsAtAllPlaces(t *testing.T) {
	e := stepEnv()
	holdEnv(t, "the environment of the tests", e, true)
	w := slowStepsIn(e)
	for _, c := range plainSteps() {
		for _, place := range placesOfSteps() {
			in, out := strings.Replace(place, "@", c.in, 1), strings.Replace(place, "@", c.out, 1)
			holdStep(t, e, read(in), c.kind, out)
			if x, kind := w.next(treeOf(read(in))); kind != c.kind || x.text() != out {
				t.Errorf("%s: by the slow way kind %d\n%s", in, kind, x.text())
			}
		}
	}
}

func TestTermsWithoutAStep(t *testing.T) {
	e := stepEnv()
	for _, text := range []string{
		"#0", "#4", "[#0 two]", "[[#0 two] two]",
		"*0", "*max(u,3)", "[*0 two]",
		"some", "any{q}", "[any{1} four]", "easy", "[easy two]",
		"?1", "[?1 two]", "?1000000",
		"[^ x 0 two two]", "[^ x 0 Nat [[^ y 0 Nat #0] #0]]",
		"[! x 0 two two]", "[[! x 0 two two] two]",
		"Nat", "Nat.zero", "[Nat.succ two]", "[[Nat.succ two] two]", "[Nat.zero two]", "Prod.mk{0,0}",
		"[[[[Prod.mk{0,0} two] two] two] four]",
		// too few arguments
		"Nat.rec{1}", "[Nat.rec{1} two]", "[[Nat.rec{1} two] two]", "[[[Nat.rec{1} #0] #1] #2]", "[[[Nat.rec{1} #0] #1] Nat.zero]",
		"[[[[[Vec.rec{1,0} #0] #1] #2] #3] [Vec.nil{0} #0]]", "[[[[Prod.rec{1,0,0} #0] #1] #2] #3]", "[Empty.rec{1} two]", "[Unit.rec{1} two]", "[[Unit.rec{1} two] two]",
		"Quot.lift{0,0}", "[[[[[Quot.lift{0,0} #0] #1] #2] #3] [[[Quot.mk{0} #5] #6] #7]]", "[[[[[Quot.lift{0,0} #0] #1] #2] two] two]",
		// a major that makes no step
		"[[[[Nat.rec{1} #0] #1] #2] #3]", "[[[[Nat.rec{1} two] two] two] some]", "[[[[Nat.rec{1} #0] #1] #2] [#3 two]]", "[[[[Nat.rec{1} #0] #1] #2] [^ x 0 Nat two]]",
		"[[[[Nat.rec{1} #0] #1] #2] ?0]", "[[[[Nat.rec{1} #0] #1] #2] easy]", "[[[[[Nat.rec{1} #0] #1] #2] *0] two]", "[[Empty.rec{1} #0] #1]",
		"[[[[Nat.rec{1} #0] #1] #2] [[[[Nat.rec{1} #0] #1] #2] #3]]", "[[[[Nat.rec{1} #0] #1] #2] [. Box 0 #1]]",
		"[. Prod 0 #0]", "[. Prod 0 some]", "[[. Prod 1 ?1] two]", "[. Prod 0 [. Prod 1 #0]]", "[. Prod 1 [^ x 0 Nat two]]",
		"[[[[[[Quot.lift{0,0} #0] #1] #2] #3] #4] #5]", "[[[[[[[Quot.lift{0,0} #0] #1] #2] #3] #4] #5] two]",
		// constructors with too few or too many arguments, and those of other families
		"[[[[Nat.rec{1} #0] #1] #2] Nat.succ]", "[[[[Nat.rec{1} #0] #1] #2] [Nat.zero #3]]", "[[[[Nat.rec{1} #0] #1] #2] [[Nat.succ #3] #4]]",
		"[[[[Nat.rec{1} #0] #1] #2] Unit.star]", "[[[[Nat.rec{1} #0] #1] #2] [Bush.leaf #0]]", "[[[[Nat.rec{1} #0] #1] #2] Nat]",
		"[[[[[List.rec{1,0} #0] #1] #2] #3] List.nil{0}]", "[[[[[List.rec{1,0} #0] #1] #2] #3] [[List.cons{0} #0] #1]]", "[[[[[List.rec{1,0} #0] #1] #2] #3] [[[[List.cons{0} #0] #1] #2] #3]]",
		"[. Prod 0 [[[Prod.mk{0,0} Nat] Nat] #0]]", "[. Prod 0 [[[[[Prod.mk{0,0} Nat] Nat] #0] two] #1]]", "[. Box 0 [[[[Prod.mk{0,0} Nat] Nat] #0] two]]", "[. Prod 0 [[Box.mk{0} Nat] two]]", "[. Prod 0 Prod{0,0}]",
		"[[[[[[Quot.lift{0,0} #0] #1] #2] #3] #4] [[Quot.mk{0} #5] #6]]", "[[[[[[Quot.lift{0,0} #0] #1] #2] #3] #4] Quot.mk{0}]", "[[[[[[Quot.lift{0,0} #0] #1] #2] #3] #4] [[[[Quot.mk{0} #5] #6] #7] #8]]",
		"[[[[[[Quot.lift{0,0} #0] #1] #2] #3] #4] [[[Quot{0} #5] #6] #7]]", "[[[[[[Quot.lift{0,0} #0] #1] #2] #3] #4] [[[[Quot.sound{0} #5] #6] #7] #8]]",
		// families in Prop
		"[[False.rec{1} #0] #1]", "[[False.rec{1} two] two]", "[[[True.rec #0] #1] True.intro]", "[[[True.rec #0] #1] two]",
		"[[[[[[Eq.rec{1} #0] #1] #2] #3] #4] [[Eq.refl{1} #0] #1]]", "[[[[[[Acc.rec{1} #0] #1] #2] #3] #4] two]", "[[[[[[Acc.rec{1} #0] #1] #2] #3] #4] [[[[Acc.intro{1} #0] #1] #4] #5]]",
		// other constants of the quotients
		"[[[[[Quot.ind{0} #0] #1] #2] #3] [[[Quot.mk{0} #0] #1] #4]]", "[[[[[Quot.ind{0} #0] #1] #2] #3] two]", "[[[Quot.mk{0} two] two] two]", "[Quot{0} two]",
	} {
		holdStays(t, e, text)
		holdWhnf(t, e, read(text), true, 0, text, 0, 0)
		if _, kind := slowStepsIn(e).next(treeOf(read(text))); kind != 0 {
			t.Errorf("%s: by the slow way kind %d", text, kind)
		}
	}
}

// A definition that is not at the place of the next step is left alone.
func TestStepsComeInOrder(t *testing.T) {
	e := stepEnv()
	for _, c := range []stepCase{
		{"[[^ x 0 two [#0 two]] four]", impl.StepBeta, "[four two]"},
		{"[= x two four [^ y 0 two #1]]", impl.StepLet, "[^ y 0 two four]"},
		{"[two four]", impl.StepDef, "[[Nat.succ [Nat.succ Nat.zero]] four]"},
		{"[[[[Nat.rec{1} two] four] two] [Nat.succ two]]", impl.StepCase, "[[two two] [[[[Nat.rec{1} two] four] two] two]]"},
		{"[[[[[Prod.rec{1,0,0} two] two] two] four] [two #0]]", impl.StepDef, "[[[[[Prod.rec{1,0,0} two] two] two] four] [[Nat.succ [Nat.succ Nat.zero]] #0]]"},
		{"[[[[[Prod.rec{1,0,0} two] two] two] four] [#0 two]]", impl.StepEta, "[[four [. Prod 0 [#0 two]]] [. Prod 1 [#0 two]]]"},
		{"[. Prod 1 [[[[Prod.mk{0,0} two] two] two] four]]", impl.StepProj, "four"},
		{"[[[[[[Quot.lift{0,0} two] two] two] four] two] [[[Quot.mk{0} two] two] two]]", impl.StepQuot, "[four two]"},
		// the outer constructor is looked at first, then the major's own major
		{"[[[[Nat.rec{1} #0] #1] #2] [Nat.succ [[^ x 0 Nat #0] two]]]", impl.StepCase, "[[#2 [[^ x 0 Nat #0] two]] [[[[Nat.rec{1} #0] #1] #2] [[^ x 0 Nat #0] two]]]"},
		{"[[[[Nat.rec{1} #0] #1] #2] [[[[Nat.rec{1} #3] #4] #5] Nat.zero]]", impl.StepCase, "[[[[Nat.rec{1} #0] #1] #2] #4]"},
		// a structure's major that makes no step, below one that waits for it
		{"[[[[Nat.rec{1} #0] #1] #2] [[[Unit.rec{1} #3] #4] #5]]", impl.StepEta, "[[[[Nat.rec{1} #0] #1] #2] #4]"},
		{"[[[Unit.rec{1} #3] #4] [[[[Nat.rec{1} #0] #1] #2] #5]]", impl.StepEta, "#4"},
		{"[. Box 0 [[[[[Prod.rec{1,0,0} #0] #1] #2] #3] [. Box 0 #4]]]", impl.StepEta, "[. Box 0 [[#3 [. Prod 0 [. Box 0 #4]]] [. Prod 1 [. Box 0 #4]]]]"},
		{"[[[[[Prod.rec{1,0,0} #0] #1] #2] #3] [. Prod 0 [[[[[[Quot.lift{0,0} #0] #1] #2] #3] #4] #5]]]", impl.StepEta,
			"[[#3 [. Prod 0 [. Prod 0 [[[[[[Quot.lift{0,0} #0] #1] #2] #3] #4] #5]]]] [. Prod 1 [. Prod 0 [[[[[[Quot.lift{0,0} #0] #1] #2] #3] #4] #5]]]]"},
	} {
		holdStep(t, e, read(c.in), c.kind, c.out)
	}
}

func TestStepConstants(t *testing.T) {
	kinds := []int{impl.StepBeta, impl.StepLet, impl.StepDef, impl.StepCase, impl.StepEta, impl.StepProj, impl.StepQuot}
	if !slices.Equal(kinds, []int{1, 2, 3, 4, 5, 6, 7}) {
		t.Errorf("kinds %v", kinds)
	}
}

// holdUnknown is for terms and environments that no function of the chapter
// takes.
func holdUnknown(t *testing.T, what string, e impl.Env, x impl.Term) {
	t.Helper()
	got, kind, code := impl.Step(e, x)
	if len(got.Nodes) != 0 || kind != 0 || code != impl.CodeInput {
		t.Errorf("%s: a step of kind %d, code %d", what, kind, code)
	}
	if name := impl.Blocked(e, x); name != "" {
		t.Errorf("%s: blocked by %q", what, name)
	}
	for _, fuel := range []int{-1, 0, 1, impl.MaxFuel, impl.MaxFuel + 1} {
		for _, deep := range []bool{false, true} {
			got, work, code := impl.Whnf(e, x, deep, fuel)
			holdWork(t, what, got, work, code, "", 0, impl.CodeInput)
		}
		got, work, code := impl.Normal(e, x, fuel)
		holdWork(t, what, got, work, code, "", 0, impl.CodeInput)
	}
}

func TestStepsOfWrongInput(t *testing.T) {
	e := stepEnv()
	for _, x := range wrongTerms() {
		holdUnknown(t, "a term that is not valid", e, x)
	}
	for _, text := range []string{
		"nothing", "[#0 nothing]", "[^ x 0 nothing Nat]", "two{0}", "id", "id{0,0}", "Nat.rec", "Nat.rec{0,0}", "Prod.rec{0,0}", "True.rec{0}",
		"[. nothing 0 #0]", "[. Nat 0 #0]", "[. Prod 2 #0]", "[. Unit 0 #0]", "[. True 0 #0]", "[. Prod.mk 0 #0]", "[. two 0 #0]", "Quot.lift{0}", "Quot.rec",
		"#20000", "[^ x 0 Nat #20001]", "[[^ x 0 Nat two] #20000]",
	} {
		x, code, _ := impl.ParseTerm([]byte(text))
		if code != 0 {
			x = lam("x", 0, constant("Nat"), variable(impl.MaxNodes+1))
		}
		holdUnknown(t, text, e, x)
	}
	for _, x := range []impl.Term{variable(impl.MaxNodes - 1), lam("x", 0, prop(), variable(impl.MaxNodes)), let("x", prop(), prop(), variable(impl.MaxNodes))} {
		if _, _, code := impl.Step(e, x); code != 0 {
			t.Errorf("%s has code %d", written(x), code)
		}
	}
	for _, d := range []impl.Decl{natFamily(), {}, declared(impl.KindAxiom, "more", "", "nothing", ""), {Kind: impl.KindQuot, Name: "Quot"}} {
		holdUnknown(t, "an environment that is not valid", behind(e, d), read("two"))
		holdUnknown(t, "an environment that is not valid", behind(e, d), prop())
	}
	holdUnknown(t, "an environment without it", impl.Env{}, read("two"))
	holdStays(t, impl.Env{}, "[^ x 0 *0 #0]")
}
