package tests

import (
	"testing"

	"loop.example/g00005/impl"
)

// Step 1: what is the same once it is filled is done.
func TestUnifySameTerms(t *testing.T) {
	holdUnifyCases(t, unifyEnv(), unifyContext(), []unifyCase{
		{"two", "two", nil, nil, 1, 0},
		{"#4", "#4", texts("Nat"), texts("Nat"), 1, 0},
		{"[f ?0]", "[f ?0]", texts("Nat"), texts("Nat"), 1, 0},
		{"?0", "?0", texts("Nat"), texts("Nat"), 1, 0},
		{"[^ x 0 Nat ?0]", "[^ y 2 Nat ?0]", texts("Nat"), texts("Nat"), 1, 0},
		{"*max(_0,1)", "*max(1,_0)", texts("_"), texts("_"), 1, 0},
		{"?0", "two", texts("Nat := two"), texts("Nat := two"), 1, 0},
		{"[Nat.succ ?0]", "[Nat.succ ?1]", texts("Nat := two", "Nat := ?2", "Nat := two"), texts("Nat := two", "Nat := ?2", "Nat := two"), 1, 0},
		{"*_0", "*2", texts("_ := 2"), texts("_ := 2"), 1, 0},
	})
}

// Step 2: terms without holes are compared, each at its type.
func TestUnifyWithoutHoles(t *testing.T) {
	holdUnifyCases(t, unifyEnv(), unifyContext(), []unifyCase{
		{"two", "[Nat.succ one]", texts("Nat"), texts("Nat"), 5, 0},
		{"two", "three", texts("Nat"), nil, 7, impl.CodeUnify},
		{"#4", "#3", nil, nil, 2, impl.CodeUnify},
		{"?0", "three", texts("Nat := two"), nil, 7, impl.CodeUnify},
		{"?0", "[Nat.succ one]", texts("Nat := two"), texts("Nat := two"), 5, 0},
		{"[add #4]", "[^ a 0 Nat [[add #5] #0]]", nil, nil, 4, 0},
		{"#1", "[[[[Prod.mk{0,0} Nat] Nat] [. Prod 0 #1]] [. Prod 1 #1]]", nil, nil, 6, 0},
		{"*_0", "*3", texts("_ := 2"), nil, 2, impl.CodeUnify},
		{"Nat", "Unit", nil, nil, 2, impl.CodeUnify},
		{"Nat.zero", "Unit.star", nil, nil, 2, impl.CodeUnify},
		{"[Nat.zero two]", "two", nil, nil, 1, impl.CodeFun},
	})
}

// Step 3: a hole that is applied to variables is set, whichever side it stands on.
func TestUnifySetsHoles(t *testing.T) {
	holdUnifyCases(t, unifyEnv(), unifyContext(), []unifyCase{
		{"?0", "two", texts("Nat"), texts("Nat := two"), 2, 0},
		{"two", "?0", texts("Nat"), texts("Nat := two"), 2, 0},
		{"?0", "?1", texts("Nat", "Nat"), texts("Nat := ?1", "Nat"), 2, 0},
		{"?0", "four", texts("Nat"), texts("Nat := four"), 2, 0},
		{"[?0 #4]", "[[add #4] #4]", texts("Fun"), texts("Fun := [^ n 2 Nat [[add #0] #0]]"), 5, 0},
		{"[[add #4] #4]", "[?0 #4]", texts("Fun"), texts("Fun := [^ n 2 Nat [[add #0] #0]]"), 5, 0},
		{"[[?0 #4] #3]", "[[f #3] #4]", texts("Op"), texts("Op := [^ a 0 Nat [^ b 0 Nat [[f #0] #1]]]"), 5, 0},
		{"[[?0 #2] #4]", "[#2 #4]", texts("[! g 1 [! n 0 Nat Nat] [! a 2 Nat Nat]]"), texts("[! g 1 [! n 0 Nat Nat] [! a 2 Nat Nat]] := [^ g 1 [! n 0 Nat Nat] [^ a 2 Nat [#1 #0]]]"), 2, 0},
		{"[[?0 #0] #4]", "[[^ a 0 #0 [f #5]] #4]", texts("[! B 0 *1 [! n 0 Nat [! m 0 Nat Nat]]]"), texts("[! B 0 *1 [! n 0 Nat [! m 0 Nat Nat]]] := [^ B 0 *1 [^ n 0 Nat [[^ a 0 #1 [f #1]] #0]]]"), 2, 0},
		{"[?0 #4]", "[[add ?1] #4]", texts("Fun", "Nat"), texts("Fun := [^ n 2 Nat [[add ?1] #0]]", "Nat"), 5, 0},
		{"[?0 #4]", "[?1 #4]", texts("Fun", "Fun"), texts("Fun := [^ n 2 Nat [?1 #0]]", "Fun"), 6, 0},
		{"?0", "[. Prod 0 ?1]", texts("Nat", "[[Prod{0,0} Nat] Nat]"), texts("Nat := [. Prod 0 ?1]", "[[Prod{0,0} Nat] Nat]"), 2, 0},
		{"[?0 #4]", "#4", texts("[[id{2} *1] Fun]"), texts("[[id{2} *1] Fun] := [^ n 2 Nat #0]"), 11, 0},
		{"?0", "?1", texts("Nat", "?2", "*1"), texts("Nat := ?1", "?2", "*1 := Nat"), 3, 0},
	})
}

// A hole that stands in the term, variables that are missing, and types that are
// others.
func TestUnifySetsNoHoles(t *testing.T) {
	holdUnifyCases(t, unifyEnv(), unifyContext(), []unifyCase{
		{"?0", "[Nat.succ ?0]", texts("Nat"), nil, 1, impl.CodeUnify},
		{"[Nat.succ ?0]", "?0", texts("Nat"), nil, 1, impl.CodeUnify},
		{"[?0 #4]", "[Nat.succ [?0 #3]]", texts("Fun"), nil, 1, impl.CodeUnify},
		{"?0", "[f ?1]", texts("Nat", "Nat := [Nat.succ ?0]"), nil, 1, impl.CodeUnify},
		{"?0", "#4", texts("Nat"), nil, 1, impl.CodeUnify},
		{"#4", "?0", texts("Nat"), nil, 1, impl.CodeUnify},
		{"[?0 #4]", "#3", texts("Fun"), nil, 1, impl.CodeUnify},
		{"[?0 #4]", "[[f #4] #3]", texts("Fun"), nil, 1, impl.CodeUnify},
		{"[?0 #4]", "[[^ a 0 Nat two] #3]", texts("Fun"), nil, 1, impl.CodeUnify},
		{"[[?0 #3] #4]", "[#2 #4]", texts("[! a 1 Nat [! b 2 Nat Nat]]"), nil, 1, impl.CodeUnify},
		{"[?0 #4]", "[^ y 0 Nat [^ z 0 Nat [[f #2] #0]]]", texts("[! n 0 Nat Op]"), nil, 1, impl.CodeUnify},
		{"[?0 #4]", "two", texts("Nat"), nil, 1, impl.CodeUnify},
		{"[[?0 #4] #3]", "two", texts("Fun"), nil, 2, impl.CodeUnify},
		{"?0", "Unit.star", texts("Nat"), nil, 3, impl.CodeUnify},
		{"?0", "?1", texts("*1", "Nat"), nil, 3, impl.CodeUnify},
		{"?0", "?1", texts("Nat", "?2", "Unit"), nil, 4, impl.CodeUnify},
		{"?0", "[Nat.zero two]", texts("Nat"), nil, 1, impl.CodeUnify},
		{"?0", "[. Prod 0 two]", texts("Nat"), nil, 1, impl.CodeUnify},
		{"?0", "[! x 0 two Nat]", texts("*1"), nil, 1, impl.CodeUnify},
		{"[?0 #4]", "two", texts("[! n 0 Nat ?0]"), nil, 2, impl.CodeSort},
		{"[?0 #4]", "#4", texts("[! n 0 [?0 Nat.zero] Nat]"), nil, 1, impl.CodeUnify},
	})
}

// The other way round, and what is put off: a term with holes whose variables are
// missing, the same hole twice, and holes applied to other things than variables.
func TestUnifyFlexible(t *testing.T) {
	holdUnifyCases(t, unifyEnv(), unifyContext(), []unifyCase{
		{"[?0 #4]", "[[?1 #4] #3]", texts("Fun", "Op"), texts("Fun", "Op := [^ a 0 Nat [^ b 0 Nat [?0 #1]]]"), 6, 0},
		{"[[?1 #4] #3]", "[?0 #4]", texts("Fun", "Op"), texts("Fun", "Op := [^ a 0 Nat [^ b 0 Nat [?0 #1]]]"), 6, 0},
		{"[?0 #4]", "[?1 #3]", texts("Fun", "Fun"), texts("Fun", "Fun", "|- [?0 #4] = [?1 #3]"), 1, 0},
		{"[?0 #4]", "[[f ?1] #3]", texts("Fun", "Nat"), texts("Fun", "Nat", "|- [?0 #4] = [[f ?1] #3]"), 1, 0},
		{"[[f ?1] #3]", "[?0 #4]", texts("Fun", "Nat"), texts("Fun", "Nat", "|- [[f ?1] #3] = [?0 #4]"), 1, 0},
		{"[?0 #4]", "[[?1 #3] two]", texts("Fun", "Op"), texts("Fun", "Op", "|- [?0 #4] = [[?1 #3] two]"), 1, 0},
		{"[[?1 #3] two]", "[?0 #4]", texts("Fun", "Op"), texts("Fun", "Op", "|- [[?1 #3] two] = [?0 #4]"), 1, 0},
		{"[?0 #4]", "[?0 #3]", texts("Fun"), texts("Fun", "|- [?0 #4] = [?0 #3]"), 1, 0},
		{"[?0 #4]", "[?0 two]", texts("Fun"), texts("Fun", "|- [?0 #4] = [?0 two]"), 1, 0},
		{"[[?0 #4] #4]", "two", texts("Op"), texts("Op", "|- [[?0 #4] #4] = two"), 1, 0},
		{"two", "[[?0 #4] #4]", texts("Op"), texts("Op", "|- two = [[?0 #4] #4]"), 1, 0},
		{"[[[?0 #4] #3] #4]", "two", texts("[! a 0 Nat Op]"), texts("[! a 0 Nat Op]", "|- [[[?0 #4] #3] #4] = two"), 1, 0},
		{"[?0 two]", "three", texts("Fun"), texts("Fun", "|- [?0 two] = three"), 1, 0},
		{"[?0 two]", "[?1 #4]", texts("Fun", "Fun"), texts("Fun", "Fun := [^ n 2 Nat [?0 two]]"), 6, 0},
		{"[?0 two]", "[?1 two]", texts("Fun", "Fun"), texts("Fun", "Fun", "|- [?0 two] = [?1 two]"), 1, 0},
		{"[?0 two]", "[?1 #3]", texts("Fun", "Fun"), texts("Fun", "Fun := [^ n 2 Nat [?0 two]]"), 6, 0},
		{"[?0 #4]", "[?1 two]", texts("Fun", "Fun"), texts("Fun := [^ n 2 Nat [?1 two]]", "Fun"), 6, 0},
		{"[?0 [Nat.succ #3]]", "[?1 #4]", texts("Fun", "Fun"), texts("Fun", "Fun", "|- [?0 [Nat.succ #3]] = [?1 #4]"), 1, 0},
		{"[?0 [Nat.succ #3]]", "#4", texts("Fun"), texts("Fun", "|- [?0 [Nat.succ #3]] = #4"), 1, 0},
		{"[?0 ?1]", "#4", texts("Fun", "Nat"), texts("Fun", "Nat", "|- [?0 ?1] = #4"), 1, 0},
		{"[?0 two]", "three", texts("Fun", "two = [?0 one]"), texts("Fun", "two = [?0 one]", "|- [?0 two] = three"), 1, 0},
		{"[?0 [?1 #4]]", "#4", texts("Fun", "Fun := [^ n 0 Nat [Nat.succ #0]]"), texts("Fun", "Fun := [^ n 0 Nat [Nat.succ #0]]", "|- [?0 [Nat.succ #4]] = #4"), 1, 0},
	})
}

// Step 4: terms that become flexible, and that lose their holes.
func TestUnifyWhnf(t *testing.T) {
	holdUnifyCases(t, unifyEnv(), unifyContext(), []unifyCase{
		{"[[^ x 0 Nat [?0 #0]] #4]", "[Nat.succ #4]", texts("Fun"), texts("Fun := [^ n 2 Nat [Nat.succ #0]]"), 6, 0},
		{"[Nat.succ #4]", "[= x Nat #4 [?0 #0]]", texts("Fun"), texts("Fun := [^ n 2 Nat [Nat.succ #0]]"), 6, 0},
		{"[[^ x 0 Nat [?0 #0]] two]", "[Nat.succ #4]", texts("Fun"), texts("Fun", "|- [?0 two] = [Nat.succ #4]"), 2, 0},
		{"[[^ x 0 Nat two] ?0]", "two", texts("Nat"), texts("Nat"), 2, 0},
		{"[[^ x 0 Nat two] ?0]", "[[^ x 0 Nat two] ?1]", texts("Nat", "Nat"), texts("Nat", "Nat"), 3, 0},
		{"[[^ x 0 Nat [Nat.succ #0]] ?0]", "two", texts("Nat"), texts("Nat := [Nat.succ Nat.zero]"), 5, 0},
		{"[[^ x 0 Nat ?0] two]", "[[^ x 0 Nat ?0] three]", texts("Nat"), texts("Nat", "|- ?0 = ?0"), 3, 0},
	})
}

// Step 5: sorts, functions, and a function beside something else.
func TestUnifyByKinds(t *testing.T) {
	holdUnifyCases(t, unifyEnv(), unifyContext(), []unifyCase{
		{"*_0", "*max(1,_1)", texts("_", "_"), texts("_ := max(1,_1)", "_"), 1, 0},
		{"[! x 0 ?0 [?1 #0]]", "[! y 0 Nat [[[Eq{1} Nat] #0] #0]]", texts("*1", "[! x 0 Nat *0]"), texts("*1 := Nat", "[! x 0 Nat *0] := [^ x 0 Nat [[[Eq{1} Nat] #0] #0]]"), 5, 0},
		{"[! x 0 Nat ?0]", "[! x 0 Unit Unit]", texts("*1"), nil, 3, impl.CodeUnify},
		{"[! x 0 Nat [?0 #0]]", "[! x 0 Nat [[f #0] #5]]", texts("Fun"), nil, 3, impl.CodeUnify},
		{"[! x 0 Nat [[f [?1 #5]] [?0 #0]]]", "[! x 0 Nat [[f two] #5]]", texts("Fun", "Fun"), nil, 9, impl.CodeUnify},
		{"[^ x 0 ?0 #0]", "[^ y 0 Nat #0]", texts("*1"), texts("*1 := Nat"), 4, 0},
		{"[^ x 0 ?0 [?1 #0]]", "[^ y 0 Nat [Nat.succ #0]]", texts("*1", "Fun"), texts("*1 := Nat", "Fun := [^ n 2 Nat [Nat.succ #0]]"), 8, 0},
		{"[^ x 0 Nat ?0]", "[^ y 0 Nat #0]", texts("Nat"), nil, 3, impl.CodeUnify},
		{"[^ x 0 Nat [?0 #0]]", "Nat.succ", texts("Fun"), texts("Fun := [^ n 2 Nat [Nat.succ #0]]"), 6, 0},
		{"Nat.succ", "[^ x 0 Nat [?0 #0]]", texts("Fun"), texts("Fun := [^ n 2 Nat [Nat.succ #0]]"), 6, 0},
		{"[^ x 0 Nat [[f ?0] #0]]", "[f ?1]", texts("Nat", "Nat"), texts("Nat := ?1", "Nat"), 5, 0},
		{"[f ?1]", "[^ x 0 Nat [[f ?0] #0]]", texts("Nat", "Nat"), texts("Nat := ?1", "Nat"), 5, 0},
		{"[^ x 0 Nat ?0]", "Nat", texts("Nat"), nil, 2, impl.CodeUnify},
		{"[^ x 0 Nat [[add ?0] #0]]", "[add two]", texts("Nat"), texts("Nat := two"), 5, 0},
		{"*_0", "[! x 0 Nat ?0]", texts("*1", "_"), nil, 1, impl.CodeUnify},
	})
}

// Step 6: heads and arguments, from the first to the last.
func TestUnifyHeads(t *testing.T) {
	holdUnifyCases(t, unifyEnv(), unifyContext(), []unifyCase{
		{"[#2 ?0]", "[#2 two]", texts("Nat"), texts("Nat := two"), 3, 0},
		{"[#2 ?0]", "[[^ x 0 Nat [#3 two]] ?0]", texts("Nat"), texts("Nat := two"), 4, 0},
		{"[#2 ?0]", "[[#2 ?0] ?0]", texts("Nat"), nil, 1, impl.CodeUnify},
		{"[#2 ?0]", "[[f ?0] two]", texts("Nat"), nil, 1, impl.CodeUnify},
		{"#4", "[f ?0]", texts("Nat"), nil, 1, impl.CodeUnify},
		{"[[f ?0] ?0]", "[[f two] three]", texts("Nat"), nil, 10, impl.CodeUnify},
		{"[[f ?0] ?1]", "[[f two] ?0]", texts("Nat", "Nat"), texts("Nat := two", "Nat := two"), 5, 0},
		{"[[f two] ?0]", "[[f three] #4]", texts("Nat"), nil, 8, impl.CodeUnify},
		{"[. Prod 0 ?0]", "[. Prod 0 #1]", texts("[[Prod{0,0} Nat] Nat]"), nil, 2, impl.CodeUnify},
		{"[. Prod 0 [#1 ?0]]", "[. Prod 0 [#1 two]]", texts("Nat"), texts("Nat := two"), 4, 0},
		{"[[. Prod 0 [#1 ?0]] ?1]", "[[. Prod 0 [#1 two]] three]", texts("Nat", "Nat"), texts("Nat := two", "Nat := three"), 6, 0},
		{"[. Prod 0 [#1 ?0]]", "[. Prod 1 [#1 two]]", texts("Nat"), nil, 1, impl.CodeUnify},
		{"[[Vec{1} Nat] ?0]", "[[Vec{1} Nat] two]", texts("Nat"), texts("Nat := two"), 4, 0},
		{"[[poly{_0,1} Nat] ?0]", "[[poly{2,_0} Nat] Nat]", texts("*1", "_"), texts("*1 := Nat", "_ := 2", "*0 = *1"), 4, 0},
		{"[Nat.succ ?0]", "Nat.zero", texts("Nat"), nil, 1, impl.CodeUnify},
	})
}

// Step 6: terms that wait for a hole, and such that only have one somewhere.
func TestUnifyWaits(t *testing.T) {
	holdUnifyCases(t, unifyEnv(), unifyContext(), []unifyCase{
		{"[. Prod 0 ?0]", "[. Prod 1 ?0]", texts("[[Prod{0,0} Nat] Nat]"), texts("[[Prod{0,0} Nat] Nat]", "|- [. Prod 0 ?0] = [. Prod 1 ?0]"), 1, 0},
		{"[. Prod 1 ?0]", "two", texts("[[Prod{0,0} Nat] Nat]"), texts("[[Prod{0,0} Nat] Nat]", "|- [. Prod 1 ?0] = [Nat.succ [Nat.succ Nat.zero]]"), 2, 0},
		{"two", "[[. Prod 1 ?0] #4]", texts("[[Prod{0,0} Nat] Fun]"), texts("[[Prod{0,0} Nat] Fun]", "|- [Nat.succ [Nat.succ Nat.zero]] = [[. Prod 1 ?0] #4]"), 2, 0},
		{"[. Prod 0 [. Prod 0 [?0 two]]]", "#4", texts("[! n 0 Nat [[Prod{0,0} [[Prod{0,0} Nat] Nat]] Nat]]"), texts("[! n 0 Nat [[Prod{0,0} [[Prod{0,0} Nat] Nat]] Nat]]", "|- [. Prod 0 [. Prod 0 [?0 two]]] = #4"), 1, 0},
		{"[[[[Nat.rec{1} [^ t 0 Nat Nat]] two] [^ n 0 Nat [^ ih 0 Nat [Nat.succ #0]]]] ?0]", "#4", texts("Nat"), texts("Nat", "|- [[[[Nat.rec{1} [^ t 0 Nat Nat]] two] [^ n 0 Nat [^ ih 0 Nat [Nat.succ #0]]]] ?0] = #4"), 1, 0},
		{"[[[[Nat.rec{1} [^ t 0 Nat Nat]] ?0] [^ n 0 Nat [^ ih 0 Nat [Nat.succ #0]]]] #4]", "#3", texts("Nat"), nil, 1, impl.CodeUnify},
		{"[[[Nat.rec{1} [^ t 0 Nat Nat]] ?0] [^ n 0 Nat [^ ih 0 Nat [Nat.succ #0]]]]", "#2", texts("Nat"), nil, 1, impl.CodeUnify},
		{"[[[[[[Quot.lift{1,1} Nat] [^ x 0 Nat [^ y 0 Nat True]]] Nat] #2] [^ x 0 Nat [^ y 0 Nat [^ r 0 True [[Eq.refl{1} Nat] [#5 #2]]]]]] ?0]", "#4", texts("[[Quot{1} Nat] [^ x 0 Nat [^ y 0 Nat True]]]"), texts("[[Quot{1} Nat] [^ x 0 Nat [^ y 0 Nat True]]]", "|- [[[[[[Quot.lift{1,1} Nat] [^ x 0 Nat [^ y 0 Nat True]]] Nat] #2] [^ x 0 Nat [^ y 0 Nat [^ r 0 True [[Eq.refl{1} Nat] [#5 #2]]]]]] ?0] = #4"), 1, 0},
		{"[[[[[[Quot.lift{1,1} Nat] [^ x 0 Nat [^ y 0 Nat True]]] Nat] [^ n 0 Nat ?0]] [^ x 0 Nat [^ y 0 Nat [^ r 0 True [[Eq.refl{1} Nat] [#5 #2]]]]]] [[[Quot.mk{1} Nat] [^ x 0 Nat [^ y 0 Nat True]]] ?0]]", "#4", texts("Nat"), nil, 3, impl.CodeUnify},
		{"[[[[True.rec [^ t 0 True Nat]] #4] ?0] #3]", "#4", texts("True"), nil, 1, impl.CodeUnify},
	})
}

// Step 7: definitions are tried by their arguments, and unfolded by their heights;
// a try that fails leaves nothing but its work.
func TestUnifyDefinitions(t *testing.T) {
	holdUnifyCases(t, unifyEnv(), unifyContext(), []unifyCase{
		{"[double ?0]", "[double two]", texts("Nat"), texts("Nat := two"), 3, 0},
		{"[double ?0]", "four", texts("Nat"), texts("Nat := two"), 7, 0},
		{"four", "[double ?0]", texts("Nat"), texts("Nat := two"), 7, 0},
		{"[[const ?0] #4]", "[[const two] #3]", texts("Nat"), texts("Nat := two"), 12, 0},
		{"[[const ?0] [[f ?1] #4]]", "[[const two] [[f #3] ?1]]", texts("Nat", "Nat"), texts("Nat := two", "Nat"), 12, 0},
		{"[[const two] ?0]", "two", texts("Nat"), texts("Nat"), 6, 0},
		{"[[const ?0] ?1]", "[[const two] ?1]", texts("Nat", "Nat"), texts("Nat := two", "Nat"), 4, 0},
		{"[[add two] ?0]", "[[add two] two]", texts("Nat"), texts("Nat := two"), 4, 0},
		{"[[add two] ?0]", "four", texts("Nat"), texts("Nat := two"), 5, 0},
		{"[[add two] ?0]", "three", texts("Nat"), texts("Nat", "|- [[[[Nat.rec{1} [^ t 0 Nat Nat]] two] [^ n 0 Nat [^ ih 0 Nat [Nat.succ #0]]]] ?0] = [Nat.succ two]"), 5, 0},
		{"[[add ?0] two]", "four", texts("Nat"), texts("Nat := two"), 5, 0},
		{"[[same{_0} Nat] ?0]", "[[same{1} Nat] two]", texts("Nat", "_"), texts("Nat := two", "_ := 1"), 4, 0},
		{"[[same{1} Nat] ?0]", "[[id{1} Nat] two]", texts("Nat"), texts("Nat := two"), 7, 0},
		{"[[same{1} Nat] ?0]", "#4", texts("Nat"), nil, 7, impl.CodeUnify},
		{"[[[same{1} Fun] Nat.succ] ?0]", "[Nat.succ two]", texts("Nat"), texts("Nat := two"), 9, 0},
		{"[[const ?0] #4]", "[double #3]", texts("Nat"), nil, 9, impl.CodeUnify},
		{"[. Prod 0 [[id{1} Pair] ?0]]", "[. Prod 0 [[id{1} Pair] pair]]", texts("Pair"), texts("Pair := pair"), 9, 0},
		{"[[[^ x 0 Nat const] ?0] ?0]", "[const three]", texts("Nat"), texts("Nat := three"), 4, 0},
	})
}
