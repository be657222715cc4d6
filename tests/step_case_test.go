package tests

import (
	"testing"

	"loop.example/g00005/impl"
)

func TestStepCaseOfFamilies(t *testing.T) {
	e := stepEnv()
	bush, vec, tree := "[[[Bush.rec{1} #0] #1] #2]", "[[[[Vec.rec{1,0} #0] #1] #2] #3]", "[[[[Tree.rec{1,q} #0] #1] #2] #3]"
	for _, c := range []stepCase{
		// parameters: those of the constructor are not those of the recursor
		{"[[[[[List.rec{1,0} #0] #1] #2] #3] [List.nil{0} #9]]", impl.StepCase, "#2"},
		{"[[[[[[List.rec{1,0} #0] #1] #2] #3] [List.nil{4} #9]] #5]", impl.StepCase, "[#2 #5]"},
		{"[[[[[List.rec{1,0} #0] #1] #2] #3] [[[List.cons{0} #9] #4] #5]]", impl.StepCase, "[[[#3 #4] #5] [[[[[List.rec{1,0} #0] #1] #2] #3] #5]]"},
		// fields of the family and others in any order
		{"[" + bush + " [Bush.leaf #3]]", impl.StepCase, "[#1 #3]"},
		{"[[" + bush + " [[[Bush.node #3] #4] #5]] #6]", impl.StepCase, "[[[[[[#2 #3] #4] #5] [" + bush + " #3]] [" + bush + " #5]] #6]"},
		{"[" + bush + " [[[Bush.node [Bush.leaf two]] four] #5]]", impl.StepCase,
			"[[[[[#2 [Bush.leaf two]] four] #5] [" + bush + " [Bush.leaf two]]] [" + bush + " #5]]"},
		// indices as in the field's type: not those of the recursor
		{"[[" + vec + " #8] [Vec.nil{0} #9]]", impl.StepCase, "#2"},
		{"[[" + vec + " #8] [[[[Vec.cons{0} #9] [Nat.succ #4]] #5] #6]]", impl.StepCase,
			"[[[[#3 [Nat.succ #4]] #5] #6] [[" + vec + " [Nat.succ #4]] #6]]"},
		// under functions, with levels, parameters and fields in front put
		{"[[" + tree + " #8] [Tree.leaf{3} #9]]", impl.StepCase, "#2"},
		{"[[" + tree + " #8] [[[[[Tree.node{3} #9] #4] #5] #6] #7]]", impl.StepCase,
			"[[[[[[#3 #4] #5] #6] #7]" +
				" [^ x 2 #9 [[[[[[Tree.rec{1,q} #1] #2] #3] #4] #6] [#7 #0]]]]" +
				" [^ y 1 #9 [^ k 0 [[[Eq{q+1} #10] #5] #0] [[[[[[Tree.rec{1,q} #2] #3] #4] #5] [Nat.succ #7]] [[#9 #1] #0]]]]]"},
		{"[[[[[[[Tree.rec{0,max(a,b)} Nat] [^ n 0 Nat #1]] two] #3] #8] [[[[[Tree.node{3} [! z 0 #0 #1]] #4] [#5 #6]] [^ w 0 Nat [#0 #7]]] #2]] #9]", impl.StepCase,
			"[[[[[[[#3 #4] [#5 #6]] [^ w 0 Nat [#0 #7]]] #2]" +
				" [^ x 2 [! z 0 #0 #1] [[[[[[Tree.rec{0,max(a,b)} Nat] [^ n 0 Nat #2]] two] #4] [#6 #7]] [[^ w 0 Nat [#0 #8]] #0]]]]" +
				" [^ y 1 [! z 0 #0 #1] [^ k 0 [[[Eq{max(a,b)+1} [! z 0 #1 #2]] #5] #0]" +
				" [[[[[[Tree.rec{0,max(a,b)} Nat] [^ n 0 Nat #3]] two] #5] [Nat.succ [#7 #8]]] [[#4 #1] #0]]]]] #9]"},
		// structures with a constructor there
		{"[[[Unit.rec{1} #0] #1] Unit.star]", impl.StepCase, "#1"},
		{"[[[[Unit.rec{1} #0] #1] Unit.star] #2]", impl.StepCase, "[#1 #2]"},
		{"[[[[Box.rec{1,0} Nat] #0] #1] [[Box.mk{0} #5] two]]", impl.StepCase, "[#1 two]"},
		{"[[[[[[Prod.rec{1,0,0} Nat] Nat] #0] #1] [[[[Prod.mk{0,0} #8] #9] two] #2]] #4]", impl.StepCase, "[[[#1 two] #2] #4]"},
		{"[[[[[Sigma.rec{1,0,0} Nat] #7] #0] #1] [[[[Sigma.mk{0,0} #8] #9] two] #2]]", impl.StepCase, "[[#1 two] #2]"},
		// structures without it: also of what can be none
		{"[[[[[Sigma.rec{1,0,0} Nat] #7] #0] #1] some]", impl.StepEta, "[[#1 [. Sigma 0 some]] [. Sigma 1 some]]"},
		{"[[[[[[Sigma.rec{1,0,0} Nat] #7] #0] #1] some] #5]", impl.StepEta, "[[[#1 [. Sigma 0 some]] [. Sigma 1 some]] #5]"},
		{"[[[Unit.rec{1} #0] #1] [Unit.star #2]]", impl.StepEta, "#1"},
		{"[[[Unit.rec{1} #0] #1] Nat.zero]", impl.StepEta, "#1"},
		{"[[[[Box.rec{1,0} Nat] #0] #1] [Box.mk{0} #5]]", impl.StepEta, "[#1 [. Box 0 [Box.mk{0} #5]]]"},
		{"[[[[Box.rec{1,0} Nat] #0] #1] [[[Box.mk{0} #5] #6] #7]]", impl.StepEta, "[#1 [. Box 0 [[[Box.mk{0} #5] #6] #7]]]"},
		{"[[[[Box.rec{1,0} Nat] #0] #1] [^ x 0 Nat two]]", impl.StepEta, "[#1 [. Box 0 [^ x 0 Nat two]]]"},
		{"[[[[Box.rec{1,0} Nat] #0] #1] *0]", impl.StepEta, "[#1 [. Box 0 *0]]"},
		{"[[[[Box.rec{1,0} Nat] #0] #1] Unit.star]", impl.StepEta, "[#1 [. Box 0 Unit.star]]"},
		{"[[[[Box.rec{1,0} Nat] #0] #1] [. Box 0 #3]]", impl.StepEta, "[#1 [. Box 0 [. Box 0 #3]]]"},
		// a structure's major that makes steps first
		{"[[[[Box.rec{1,0} Nat] #0] #1] [[^ x 0 Nat #0] #5]]", impl.StepBeta, "[[[[Box.rec{1,0} Nat] #0] #1] #5]"},
		{"[[[[Box.rec{1,0} Nat] #0] #1] [id{1} Nat]]", impl.StepDef, "[[[[Box.rec{1,0} Nat] #0] #1] [[^ A 1 *1 [^ a 0 #0 #0]] Nat]]"},
		{"[[[[Box.rec{1,0} Nat] #0] #1] [. Box 0 [[Box.mk{0} #5] #6]]]", impl.StepProj, "[[[[Box.rec{1,0} Nat] #0] #1] #6]"},
		{"[[[[Box.rec{1,0} Nat] #0] #1] [[[[Box.rec{1,0} Nat] #2] #3] #4]]", impl.StepEta, "[[[[Box.rec{1,0} Nat] #0] #1] [#3 [. Box 0 #4]]]"},
	} {
		holdStep(t, e, read(c.in), c.kind, c.out)
		if x, kind := slowStepsIn(e).next(treeOf(read(c.in))); kind != c.kind || x.text() != c.out {
			t.Errorf("%s: by the slow way kind %d\n%s", c.in, kind, x.text())
		}
	}
}

// A family in Prop whose level is no 0 as it stands, a family whose Params have
// the name of the recursor's own, and constructors of names that say nothing.
func TestStepCaseOfStrangeFamilies(t *testing.T) {
	e := envOf(
		family("P", "u", 0, "*imax(u,0)", "P.a", "P{u}"),
		family("T", "v v1", 0, "*max(v,v1)+1", "make", "[! f 2 [! x 1 *v [! y 0 *v1 T{v,v1}]] T{v,v1}]", "Q.end", "T{v,v1}"),
		declared(impl.KindDef, "one", "", "*1", "*0"),
		family("I", "", 0, "[! a 0 *1 [! b 0 #0 *1]]", "I.c", "[! z 0 *0 [! h 1 [! k 2 one [[I one] #0]] [[I #1] #1]]]"),
	)
	for _, c := range []stepCase{
		{"[[[T.rec{9,1,w} #0] #1] #2]", 0, "[[[T.rec{9,1,w} #0] #1] #2]"},
		{"[[[[T.rec{9,1,w} #0] #1] #2] Q.end{3,4}]", impl.StepCase, "#2"},
		{"[[[[T.rec{9,v1,v} #0] #1] #2] [make{3,4} #5]]", impl.StepCase,
			"[[#1 #5] [^ x 1 *v1 [^ y 0 *v [[[[T.rec{9,v1,v} #2] #3] #4] [[#7 #1] #0]]]]]"},
		{"[[[P.rec{3} #0] #1] P.a{3}]", 0, "[[[P.rec{3} #0] #1] P.a{3}]"},
		// the major stands behind both indices
		{"[[[[I.rec{1} #0] #1] one] one]", 0, "[[[[I.rec{1} #0] #1] one] one]"},
		{"[[[[[I.rec{1} #0] #1] one] #3] one]", impl.StepDef, "[[[[[I.rec{1} #0] #1] one] #3] *0]"},
		{"[[[[[I.rec{1} #0] #1] one] #3] #4]", 0, "[[[[[I.rec{1} #0] #1] one] #3] #4]"},
		{"[[[[[I.rec{1} #0] #1] one] #9] [[I.c #5] #6]]", impl.StepCase,
			"[[[#1 #5] #6] [^ k 2 one [[[[[I.rec{1} #1] #2] one] #0] [#7 #0]]]]"},
	} {
		holdStep(t, e, read(c.in), c.kind, c.out)
	}
}
