package tests

import (
	"testing"

	"loop.example/g00005/impl"
)

func TestIrrelevant(t *testing.T) {
	holdConvCases(t, askIrrelevant, convEnv(), convContext(), []convCase{
		// propositions
		{"[#3 #11]", "", true, 0, 0},
		{"False", "", true, 0, 0},
		{"[[[Eq{u} Nat] two] #11]", "", true, 0, 0},
		{"[! n 0 Nat [#4 #0]]", "", true, 0, 0},
		{"[! A 0 *7 [! a 0 #0 False]]", "", true, 0, 0},
		{"statement", "", true, 3, 0},
		{"[! n 0 Nat statement]", "", true, 3, 0},
		// universes that are never Prop
		{"Nat", "", false, 0, 0},
		{"#0", "", false, 0, 0},
		{"*0", "", false, 0, 0},
		{"*u", "", false, 0, 0},
		{"[[Prod{0,0} Nat] Nat]", "", false, 0, 0},
		{"[! P 0 *0 #0]", "", true, 0, 0},
		{"[! h 0 [#3 #11] Nat]", "", false, 0, 0},
		{"set", "", false, 1, 0},
		{"[fam two]", "", false, 2, 0},
		// one that may be Prop, and one that never is
		{"[any{u+1} *u]", "", false, 0, 0},
		{"[any{v+1} *imax(1,u)]", "", false, 0, 0},
		{"[any{v+1} *imax(u,0)]", "", true, 0, 0},
		{"[any{v+1} *max(u,1)]", "", false, 0, 0},
		{"[! x 0 Nat [any{u+1} *u]]", "", false, 0, 0},
		// no types
		{"two", "", false, 0, impl.CodeSort},
		{"#11", "", false, 0, impl.CodeSort},
		{"[slow two]", "", false, 4, impl.CodeSort},
		{"[Prod{0,0} Nat]", "", false, 0, impl.CodeSort},
		{"[two two]", "", false, 0, impl.CodeFun},
		{"[. Prod 0 Nat]", "", false, 0, impl.CodeProj},
		{"?0", "", false, 0, impl.CodeHole},
		{"[! x 0 ?0 Nat]", "", false, 0, impl.CodeHole},
	})
}

func TestConvOfTheSameTerm(t *testing.T) {
	holdConvCases(t, askConv, convEnv(), convContext(), []convCase{
		{"#11", "#11", true, 1, 0},
		{"two", "two", true, 1, 0},
		{"[^ x 0 Nat #0]", "[^ y 2 Nat #0]", true, 1, 0},
		{"[! x 0 Nat Nat]", "[! y 1 Nat Nat]", true, 1, 0},
		{"[= x Nat two #0]", "[= y Nat two #0]", true, 1, 0},
		{"*max(u,v)", "*max(v,u)", true, 1, 0},
		{"id{max(u,1)}", "id{max(1,u)}", true, 1, 0},
		{"[Prod{imax(u,1),0} Nat]", "[Prod{max(1,u),imax(v,0)} Nat]", true, 1, 0},
		// the type is found first
		{"[slow two]", "[slow two]", true, 5, 0},
		{"[^ x 0 Nat [slow #0]]", "[^ x 0 Nat [slow #0]]", true, 5, 0},
		{"?0", "?0", false, 0, impl.CodeHole},
		{"[two two]", "[two two]", false, 0, impl.CodeFun},
		{"[slow [two two]]", "[slow [two two]]", true, 5, 0},
		{"[[slow two] two]", "[[slow two] two]", false, 4, impl.CodeFun},
		{"[! x 0 statement two]", "[! x 0 statement two]", false, 3, impl.CodeSort},
		{"[. Prod 0 two]", "[. Prod 0 two]", false, 0, impl.CodeProj},
		// the second one's type is not asked for
		{"two", "?0", false, 2, 0},
		{"#2", "?0", true, 1, 0},
	})
}

func TestConvOfFunctions(t *testing.T) {
	holdConvCases(t, askConv, convEnv(), convContext(), []convCase{
		// two comparisons, and a step for each function
		{"#9", "[^ x 0 Nat [#10 #0]]", true, 3, 0},
		{"[^ x 0 Nat [#10 #0]]", "#9", true, 3, 0},
		{"[^ x 0 Nat [#10 #0]]", "[^ y 0 Nat [#10 [[^ z 0 Nat #0] #0]]]", true, 6, 0},
		{"#9", "[^ x 0 Unit [#10 #0]]", true, 3, 0},
		{"#9", "[[^ z 0 Nat #10] two]", true, 3, 0},
		{"#9", "#8", false, 2, 0},
		{"#9", "[^ x 0 Nat #0]", false, 3, 0},
		{"#9", "[^ x 0 Nat [#9 #0]]", false, 3, 0},
		{"Nat.succ", "[^ n 0 Nat [Nat.succ #0]]", true, 3, 0},
		{"add", "[^ a 0 Nat [^ b 0 Nat [[add #1] #0]]]", true, 5, 0},
		{"first", "[^ a 0 Nat [^ b 0 Nat #1]]", true, 8, 0},
		{"first", "second", false, 9, 0},
		// types that become TermPis
		{"fun", "[^ n 0 Nat [fun #0]]", true, 4, 0},
		{"slow", "[^ n 0 Nat [slow #0]]", true, 7, 0},
		{"unary", "[^ n 0 Nat [^ m 0 Nat [[unary #1] #0]]]", true, 7, 0},
		{"unary", "[^ n 0 Nat [unary #0]]", true, 6, 0},
		{"[nary two]", "[^ n 0 Nat [^ m 0 Nat [[[nary two] #1] #0]]]", true, 14, 0},
		// the type of the variable stands behind the context
		{"[^ n 0 Nat [any{2} [[Vec{1} Nat] #0]]]", "[^ n 0 Nat [any{2} [[Vec{1} Nat] [[add #0] Nat.zero]]]]", true, 11, 0},
		{"[^ F 0 Fun [#0 two]]", "[^ F 0 Fun [#0 [Nat.succ one]]]", true, 10, 0},
		{"[^ f 0 Fam [#0 #12]]", "[^ f 0 Fam [#0 [[add #12] Nat.zero]]]", true, 12, 0},
		{"[^ f 0 ?0 [#0 two]]", "#9", false, 0, impl.CodeFun},
		// proofs of what is true for all
		{"[^ n 0 [#3 #11] #0]", "[^ n 0 [#3 #11] #3]", true, 2, 0},
		{"[^ a 0 Nat [^ n 0 [#4 #12] #0]]", "?0", true, 3, 0},
		// a type that is none
		{"[^ n 0 Nat odd]", "#9", false, 4, 0},
	})
}

func TestConvOfTypesAtASort(t *testing.T) {
	holdConvCases(t, askConv, convEnv(), convContext(), []convCase{
		{"Nat", "Unit", false, 1, 0},
		{"Set", "*1", true, 2, 0},
		{"*1", "Set", true, 2, 0},
		{"[! x 0 Nat Nat]", "Fun", true, 2, 0},
		{"[! x 0 Nat Nat]", "Unary", false, 5, 0},
		{"#0", "Nat", false, 1, 0},
		{"*u", "*v", false, 1, 0},
		{"*u", "*imax(1,u)", true, 1, 0},
		{"[#3 #11]", "[#3 [[^ z 0 Nat #0] #11]]", true, 3, 0},
		// the type becomes a TermSort
		{"set", "Set", false, 3, 0},
		{"set", "[[id{2} *1] set]", true, 5, 0},
		{"[fam two]", "[fam deuce]", true, 6, 0},
	})
}

func TestConvOfProofs(t *testing.T) {
	holdConvCases(t, askConv, convEnv(), convContext(), []convCase{
		{"#2", "#1", true, 1, 0},
		{"#1", "two", true, 1, 0},
		{"#1", "[two two]", true, 1, 0},
		{"easy", "[[Eq.refl{1} Nat] four]", true, 1, 0},
		{"easy", omega, true, 1, 0},
		{"prf", "#2", true, 4, 0},
		{"True.intro", "[any{0} True]", true, 1, 0},
		{"[any{2} statement]", "[[any{2} [! n 0 Nat statement]] two]", true, 4, 0},
		// types that may be in Prop are none of these
		{"[any{u} [any{u+1} *u]]", "[any{u} [any{v} *u]]", false, 2, 0},
		// no type, when it is looked at
		{"[any{u} two]", "#2", false, 2, impl.CodeSort},
		{"[any{u} [fun two]]", "#2", false, 2, impl.CodeSort},
		{"[any{u} [two two]]", "#2", false, 2, impl.CodeFun},
		{"[any{u} ?0]", "#2", false, 1, impl.CodeHole},
		{"[any{u} ?0]", "[any{v} ?0]", false, 1, impl.CodeHole},
		{"[any{u} ?0]", "[any{u} ?0]", true, 1, 0},
	})
}

func TestConvOfStructures(t *testing.T) {
	sigma := "[any{1} [[Sigma{0,1} Nat] [^ n 0 Nat [[Vec{1} Nat] #0]]]]"
	mk := "[[Sigma.mk{0,1} Nat] [^ n 0 Nat [[Vec{1} Nat] #0]]]"
	holdConvCases(t, askConv, convEnv(), convContext(), []convCase{
		{"#7", "#6", false, 2, 0},
		// for each field a comparison and a step
		{"#7", "[[[[Prod.mk{0,0} Nat] Nat] [. Prod 0 #7]] [. Prod 1 #7]]", true, 5, 0},
		{"[[[[Prod.mk{0,0} Nat] Nat] [. Prod 0 #7]] [. Prod 1 #7]]", "#7", true, 5, 0},
		{"#7", "[[[[Prod.mk{0,0} Nat] Nat] [. Prod 1 #7]] [. Prod 0 #7]]", false, 3, 0},
		{"#7", "[[[[Prod.mk{0,0} Nat] Nat] [. Prod 0 #7]] #11]", false, 5, 0},
		{"[[[[Prod.mk{0,0} Nat] Nat] #11] two]", "[[[[Prod.mk{0,0} Nat] Nat] #11] deuce]", true, 8, 0},
		{"[[[[Prod.mk{0,0} Nat] Nat] #11] two]", "[[[[Prod.mk{0,0} Nat] Nat] #10] two]", false, 4, 0},
		{"[[[[Prod.mk{0,0} Nat] Nat] #11] two]", "[[[[Prod.mk{0,0} Unit] Nat] #11] two]", true, 7, 0},
		// no field
		{"#5", "#4", true, 1, 0},
		{"Unit.star", "#4", true, 1, 0},
		{"#4", "two", true, 1, 0},
		{"#4", omega, true, 1, 0},
		// a field within a field
		{"pair", "[[[[Prod.mk{0,0} Nat] Unit] [. Prod 0 pair]] #5]", true, 5, 0},
		{"[any{1} [Box{0} [Box{0} Nat]]]", "[[Box.mk{0} [Box{0} Nat]] [[Box.mk{0} Nat] [. Box 0 [. Box 0 [any{1} [Box{0} [Box{0} Nat]]]]]]]", true, 5, 0},
		{"[any{1} [Box{0} [! n 0 Nat Nat]]]", "[[Box.mk{0} [! n 0 Nat Nat]] #9]", false, 4, 0},
		// types that name the fields in front
		{"[any{1} Two]", "[[Two.mk [. Two 0 [any{1} Two]]] ?0]", true, 4, 0},
		{"[any{1} Two]", "[[Two.mk two] ?0]", false, 4, 0},
		{sigma, "[[" + mk + " [. Sigma 0 " + sigma + "]] [. Sigma 1 " + sigma + "]]", true, 6, 0},
		{"[[" + mk + " two] [any{2} [[Vec{1} Nat] two]]]", "[[" + mk + " deuce] [any{2} [[Vec{1} Nat] [Nat.succ one]]]]", true, 15, 0},
		// with other numbers of arguments it is no type
		{"few", "two", false, 1, impl.CodeSort},
		{"much", "two", false, 1, impl.CodeFun},
		// other families
		{"[List.nil{0} Nat]", "[any{1} [List{0} Nat]]", false, 1, 0},
		{"#11", "#10", false, 1, 0},
		{"[any{1} Empty]", "[[Empty.rec{1} [^ t 0 Empty Empty]] [any{1} Empty]]", false, 1, 0},
		{"[[any{1} [! n 0 Nat Pair]] two]", "pair", false, 3, 0},
	})
}

func TestConvTypes(t *testing.T) {
	holdConvCases(t, askTypes, convEnv(), convContext(), []convCase{
		{"Nat", "Nat", true, 1, 0},
		{"[two two]", "[two two]", true, 1, 0},
		{"?0", "?0", true, 1, 0},
		{"Nat", "Unit", false, 1, 0},
		{"[[id{2} *1] Nat]", "Nat", true, 4, 0},
		// functions
		{"[! x 0 Nat Nat]", "[! y 2 Nat Nat]", true, 1, 0},
		{"[! x 0 Set Nat]", "[! y 1 *1 Nat]", true, 4, 0},
		{"[! x 0 Nat Nat]", "[! x 0 Unit Nat]", false, 2, 0},
		{"[! x 0 Nat Nat]", "[! x 0 Unit Unit]", false, 2, 0},
		{"[! x 0 Nat Nat]", "[! x 0 Nat Unit]", false, 3, 0},
		{"[! x 0 Nat [! y 0 Set *1]]", "[! x 0 Nat [! y 0 *1 Set]]", true, 7, 0},
		{"[! x 0 Nat Nat]", "Nat", false, 1, 0},
		{"[! x 0 Nat Nat]", "*1", false, 1, 0},
		{"[! x 0 Nat Nat]", "[^ x 0 Nat Nat]", false, 1, 0},
		{"[[! x 0 Nat Nat] two]", "[[! x 0 Nat Nat] #11]", false, 1, 0},
		// a's A stands behind the context: in it the type of the variable takes a step, in the other one none
		{"[! x 0 Fun [[[Eq{1} Nat] [#0 two]] two]]", "[! x 0 [! n 0 Nat Nat] [[[Eq{1} Nat] [#0 [[id{1} Nat] two]]] two]]", true, 14, 0},
		{"[! x 0 [! n 0 Nat Nat] [[[Eq{1} Nat] [#0 [[id{1} Nat] two]]] two]]", "[! x 0 Fun [[[Eq{1} Nat] [#0 two]] two]]", true, 13, 0},
		// universes
		{"*0", "*0", true, 1, 0},
		{"*max(u,v)", "*max(v,u)", true, 1, 0},
		{"*imax(u,v+1)", "*max(v+1,u)", true, 1, 0},
		{"*imax(u,v)", "*max(u,v)", false, 1, 0},
		{"*u", "*u+1", false, 1, 0},
		{"*u", "*v", false, 1, 0},
		{"Set", "*max(1,0)", true, 2, 0},
		{"Set", "*2", false, 2, 0},
		{"[[id{3} *2] *u]", "[[id{3} *2] *v]", false, 9, 0},
		{"[*0 two]", "[*0 #11]", false, 1, 0},
		{"[*0 two]", "[*0 two]", true, 1, 0},
		// terms that are no types are compared as they are, too
		{"[^ x 0 Nat #0]", "[^ x 0 Nat two]", false, 1, 0},
		{"[^ x 0 Nat [#10 #0]]", "#9", false, 1, 0},
		{"#5", "#4", false, 1, 0},
		{"#2", "#1", false, 1, 0},
		{"[= x *1 Nat #0]", "Nat", true, 2, 0},
		{"[= x *1 Nat [! y 0 #0 #1]]", "Fun", true, 3, 0},
	})
}

func TestConvAsTheyAre(t *testing.T) {
	rec := func(base, major string) string {
		return "[[[[Nat.rec{1} [^ t 0 Nat Nat]] " + base + "] " + addStep + "] " + major + "]"
	}
	lift := func(q string) string {
		return "[[[[[[Quot.lift{0,1} Nat] [^ a 0 Nat [^ b 0 Nat True]]] Nat] [^ a 0 Nat Nat.zero]] ?0] " + q + "]"
	}
	holdConvCases(t, askConv, convEnv(), convContext(), []convCase{
		// only one is blocked
		{"two", "[Nat.succ [Nat.succ Nat.zero]]", true, 2, 0},
		{"[Nat.succ [Nat.succ Nat.zero]]", "two", true, 2, 0},
		{"two", "#11", false, 2, 0},
		{"#11", "two", false, 2, 0},
		{"[[^ z 0 Nat #0] two]", "[Nat.succ [[^ z 0 Nat #0] one]]", true, 6, 0},
		// the same definition, with spines that are alike: no unfolding behind it
		{"[[add #11] [[id{1} Nat] two]]", "[[add #11] two]", true, 8, 0},
		{"[[first #11] deuce]", "[[first #11] two]", true, 4, 0},
		{"[[id{1} Nat] two]", "[[id{max(1,0)} Nat] deuce]", true, 4, 0},
		// with spines that are not
		{"[[first #11] #10]", "[[first #11] #11]", true, 9, 0},
		{"[[first #11] #10]", "[[first #10] #10]", false, 8, 0},
		{"[[second #11] #10]", "[[second #10] #10]", true, 8, 0},
		{"[[id{1} Nat] two]", "[[id{2} Nat] two]", true, 7, 0},
		{"[[id{1} Nat] two]", "[id{1} Nat]", false, 7, 0},
		{"[[id{1} Nat] two]", "[[[id{1} Fun] fun] two]", false, 8, 0},
		// the same definition, but as what a head waits for
		{rec("#11", "two"), rec("#10", "two"), false, 20, 0},
		{rec("#11", "two"), rec("#11", "deuce"), true, 3, 0},
		{"[. Prod 0 [[id{1} Pair] pair]]", "[. Prod 0 pair]", true, 5, 0},
		{lift("two"), lift("deuce"), true, 2, 0},
		{lift("two"), lift("#11"), false, 8, 0},
		{lift("[[id{1} Nat] [[[Quot.mk{0} Nat] [^ a 0 Nat [^ b 0 Nat True]]] #11]]"), "Nat.zero", true, 6, 0},
		// the higher definition first
		{"deuce", "two", true, 2, 0},
		{"two", "deuce", true, 2, 0},
		{"trey", "[Nat.succ two]", true, 4, 0},
		{"trey", "three", true, 5, 0},
		{"three", "trey", true, 5, 0},
		{"four", "two", false, 17, 0},
		{"two", "four", false, 17, 0},
		{"[[id{1} Nat] deuce]", "deuce", true, 8, 0},
		// both, where they are equally high
		{"one", "uno", true, 3, 0},
		{"one", "two", false, 4, 0},
		{"[[id{1} Nat] one]", "two", false, 7, 0},
		{"deuce", "three", false, 7, 0},
		// several rounds
		{"[[id{1} Nat] [[id{1} Nat] [[id{1} Nat] #11]]]", "#11", true, 10, 0},
		{"[[id{1} Nat] [[id{1} Nat] [[id{1} Nat] #11]]]", "#10", false, 10, 0},
		{"four", "[[add two] two]", true, 2, 0},
		{"four", "[Nat.succ three]", true, 16, 0},
		{"[[add two] #11]", "[[add #11] two]", false, 13, 0},
	})
}

func TestConvOfSpines(t *testing.T) {
	pairs := "[any{1} [[Prod{0,0} [! n 0 Nat Nat]] Nat]]"
	holdConvCases(t, askTypes, convEnv(), convContext(), []convCase{
		// another number of arguments: the type is not asked for
		{"[#9 #11]", "#9", false, 1, 0},
		{"[?0 two]", "?0", false, 1, 0},
		{"?0", "[?0 two]", false, 1, 0},
		{"[[some two] two]", "[some two]", false, 1, 0},
		// heads without arguments
		{"#11", "#10", false, 1, 0},
		{"?0", "?1", false, 1, 0},
		{"some", "Nat.zero", false, 1, 0},
		{"some", "#11", false, 1, 0},
		{"?11", "#11", false, 1, 0},
		{"any{1}", "any{2}", false, 1, 0},
		{"[. Prod 0 #7]", "[. Prod 0 #6]", false, 1, 0},
		{"[. Prod 0 #7]", "[. Prod 1 #7]", false, 1, 0},
		{"[. Prod 0 #7]", "[. Sigma 0 #7]", false, 1, 0},
		{"[. Prod 0 #7]", "#7", false, 1, 0},
		{"[. Prod 0 [#9 #11]]", "[. Prod 0 [#9 #10]]", false, 2, 0},
		{"[. Prod 0 [#9 #11]]", "[. Prod 0 [#9 [[^ z 0 Nat #0] #11]]]", true, 3, 0},
		{"[. Prod 0 ?0]", "[. Prod 1 ?0]", false, 1, 0},
		{"[. Prod 0 [?0 #11]]", "[. Prod 0 [?0 #10]]", false, 1, impl.CodeHole},
		// heads with arguments
		{"[#9 #11]", "[#9 #10]", false, 2, 0},
		{"[#9 #11]", "[#8 #11]", false, 1, 0},
		{"[#9 two]", "[#9 deuce]", true, 3, 0},
		{"[any{1} Nat]", "[any{max(1,0)} Set]", false, 3, 0},
		{"[any{1} Nat]", "[any{2} Nat]", false, 1, 0},
		{"[any{2} Set]", "[any{max(2,1)} *1]", true, 3, 0},
		{"[?0 #11]", "[?0 #10]", false, 1, impl.CodeHole},
		{"[?0 #11]", "[?1 #10]", false, 1, 0},
		{"[[. Prod 0 " + pairs + "] #11]", "[[. Prod 0 " + pairs + "] #10]", false, 3, 0},
		{"[[. Prod 0 " + pairs + "] two]", "[[. Prod 0 " + pairs + "] deuce]", true, 4, 0},
		{"[[. Prod 0 " + pairs + "] #11]", "[[. Prod 0 [any{1} Nat]] #11]", false, 2, 0},
		{"[[. Prod 1 " + pairs + "] #11]", "[[. Prod 1 " + pairs + "] #10]", false, 2, impl.CodeFun},
		// the type of a's head, which takes a step, or none
		{"[[. Prod 0 [any{1} FunPair]] #11]", "[[. Prod 0 " + pairs + "] #10]", false, 5, 0},
		{"[[. Prod 0 " + pairs + "] #11]", "[[. Prod 0 [any{1} FunPair]] #10]", false, 4, 0},
		// the type of the head becomes a TermPi, or does not
		{"[fun #11]", "[fun #10]", false, 3, 0},
		{"[slow #11]", "[slow #10]", false, 6, 0},
		{"[[unary two] #11]", "[[unary two] #10]", false, 5, 0},
		{"[[[nary two] #11] #11]", "[[[nary two] #11] #10]", false, 12, 0},
		{"[some #11]", "[some #10]", false, 1, impl.CodeFun},
		{"[[fun two] #11]", "[[fun two] #10]", false, 3, impl.CodeFun},
		{"[set #11]", "[set #10]", false, 2, impl.CodeFun},
		{"[[#9 #11] two]", "[[#9 #10] two]", false, 2, 0},
		{"[[#9 #11] two]", "[[#9 #11] #10]", false, 2, impl.CodeFun},
		// in order, and the first no is the answer
		{"[[[Eq{1} Nat] #11] #10]", "[[[Eq{1} Nat] #10] #11]", false, 3, 0},
		{"[[[Eq{1} Nat] #11] #10]", "[[[Eq{1} Unit] #10] #11]", false, 2, 0},
		{"[[[Eq{1} Nat] #11] #10]", "[[[Eq{1} Nat] #11] #11]", false, 4, 0},
		{"[[[Eq{1} Nat] two] two]", "[[[Eq{1} Nat] deuce] [Nat.succ one]]", true, 8, 0},
		// types that name the arguments in front
		{"[[[Eq{1} [! x 0 Nat Nat]] #9] #8]", "[[[Eq{1} [! x 0 Nat Nat]] [^ x 0 Nat [#10 #0]]] #8]", true, 6, 0},
		{"[[[Eq{1} Fun] #9] fun]", "[[[Eq{1} [! x 0 Nat Nat]] [^ x 0 Nat [#10 #0]]] [^ x 0 Nat [fun #0]]]", true, 11, 0},
		{"[[[Eq{1} Unit] #5] #4]", "[[[Eq{1} Unit] #4] #5]", true, 4, 0},
		{"[[at two] [any{2} [[Vec{1} Nat] two]]]", "[[at deuce] [any{2} [[Vec{1} Nat] deuce]]]", true, 8, 0},
		// any two proofs
		{"[[by #11] #2]", "[[by #11] #1]", true, 3, 0},
		{"[[by two] #2]", "[[by deuce] ?0]", true, 4, 0},
		{"[[by #11] #2]", "[[by #10] #2]", false, 2, 0},
		{"[[[Eq{0} [#3 #11]] #2] #2]", "[[[Eq{0} [#3 #11]] #1] #1]", true, 4, 0},
		// functions as arguments
		{"[of #9]", "[of [^ x 0 Nat [#10 #0]]]", true, 4, 0},
		{"[of #9]", "[of #8]", false, 3, 0},
		// other heads
		{"[[^ x 0 Nat #0] #11]", "#11", true, 2, 0},
		{"[^ x 0 Nat two]", "[^ x 0 Nat deuce]", false, 1, 0},
		{"[[! x 0 Nat two] #11]", "[[! x 0 Nat deuce] #11]", false, 1, 0},
	})
}
