package tests

import (
	"testing"

	"loop.example/g00005/impl"
)

func TestInferLeaves(t *testing.T) {
	holdInferCases(t, convEnv(), convContext(), []inferCase{
		{"#11", "Nat", 0, 0, 0},
		{"#9", "[! n 0 Nat Nat]", 0, 0, 0},
		{"#8", "[! m 1 Nat Nat]", 0, 0, 0},
		{"#2", "[#3 #11]", 0, 0, 0},
		{"#1", "[#3 #11]", 0, 0, 0},
		{"#0", "*1", 0, 0, 0},
		{"*0", "*1", 0, 0, 0},
		{"*u", "*u+1", 0, 0, 0},
		{"*max(u,imax(v,q))", "*max(u,imax(v,q))+1", 0, 0, 0},
		{"*w", "", 0, impl.CodeLevel, 0},
		{"*max(u,w)", "", 0, impl.CodeLevel, 0},
		// its number is 0 for all values
		{"*imax(w,0)", "", 0, impl.CodeLevel, 0},
		{"*w+3", "", 0, impl.CodeLevel, 0},
		{"two", "Nat", 0, 0, 0},
		{"Nat.succ", "[! n 0 Nat Nat]", 0, 0, 0},
		{"id{0}", "[! A 1 *0 [! a 0 #0 #1]]", 0, 0, 0},
		{"id{max(u,v)}", "[! A 1 *max(u,v) [! a 0 #0 #1]]", 0, 0, 0},
		{"Prod{u,v}", "[! A 0 *u+1 [! B 0 *v+1 *max(u,v)+1]]", 0, 0, 0},
		{"Nat.rec{q}", "[! C 0 [! t 0 Nat *q] [! zero 0 [#0 Nat.zero] [! succ 0 [! n 0 Nat [! ih 0 [#2 #0] [#3 [Nat.succ #1]]]] [! t 0 Nat [#3 #0]]]]]", 0, 0, 0},
		{"Quot{u}", "[! A 0 *u+1 [! r 0 [! a 0 #0 [! b 0 #1 *0]] *u+1]]", 0, 0, 0},
		{"easy", "[[[Eq{1} Nat] four] four]", 0, 0, 0},
		{"id{w}", "", 0, impl.CodeLevel, 0},
		{"Prod{w,u}", "", 0, impl.CodeLevel, 0},
		{"Prod{u,max(v,w)}", "", 0, impl.CodeLevel, 0},
		{"?0", "", 0, impl.CodeHole, 0},
		{"?7", "", 0, impl.CodeHole, 0},
	})
}

func TestInferApplications(t *testing.T) {
	holdInferCases(t, convEnv(), convContext(), []inferCase{
		{"[Nat.succ #11]", "Nat", 1, 0, 0},
		{"[#9 two]", "Nat", 1, 0, 0},
		{"[[add two] #10]", "Nat", 2, 0, 0},
		{"[#3 two]", "*0", 1, 0, 0},
		{"[any{1} #0]", "#0", 1, 0, 0},
		{"[any{0} [#3 #11]]", "[#3 #11]", 2, 0, 0},
		{"[[id{1} #0] [any{1} #0]]", "#0", 3, 0, 0},
		{"[^ x 0 Nat [[Eq.refl{1} Nat] [[add #0] #12]]]", "[! x 0 Nat [[[Eq{1} Nat] [[add #0] #12]] [[add #0] #12]]]", 4, 0, 0},
		// the type of the function becomes a TermPi by its Whnf, which has to be deep
		{"[fun two]", "Nat", 2, 0, 0},
		{"[slow two]", "Nat", 5, 0, 0},
		{"[[more two] two]", "Nat", 3, 0, 0},
		{"[[unary two] two]", "Nat", 4, 0, 0},
		{"[[= f Fun fun [#0 two]] two]", "", 3, impl.CodeFun, 7},
		{"[fam two]", "Set", 2, 0, 0},
		// it does not become one
		{"[two two]", "", 0, impl.CodeFun, 2},
		{"[#11 #11]", "", 0, impl.CodeFun, 2},
		{"[#0 two]", "", 0, impl.CodeFun, 2},
		{"[[Nat.succ two] two]", "", 1, impl.CodeFun, 4},
		{"[pair two]", "", 1, impl.CodeFun, 2},
		{"[*0 *0]", "", 0, impl.CodeFun, 2},
		{"[prf two]", "", 3, impl.CodeFun, 2},
		// the type of the argument is the same, but written otherwise
		{"[#9 [any{1} [[id{2} *1] Nat]]]", "Nat", 7, 0, 0},
		{"[of fun]", "Nat", 2, 0, 0},
		{"[of [add two]]", "Nat", 2, 0, 0},
		{"[of #8]", "Nat", 1, 0, 0},
		{"[any{u} [any{imax(1,u+1)} *u]]", "[any{imax(1,u+1)} *u]", 2, 0, 0},
		{"[any{max(u,u)} [any{u+1} *u]]", "[any{u+1} *u]", 2, 0, 0},
		{"[[by deuce] [[Eq.refl{1} Nat] two]]", "Nat", 3 + 5, 0, 0},
		{"[[by two] [[Eq.refl{1} Nat] deuce]]", "Nat", 3 + 6, 0, 0},
		{"[[by one] [[Eq.refl{1} Nat] two]]", "", 3 + 6, impl.CodeArg, 8},
		// it is another one
		{"[#9 #5]", "", 1, impl.CodeArg, 2},
		{"[Nat.succ Nat]", "", 1, impl.CodeArg, 2},
		{"[Nat.succ Nat.succ]", "", 1, impl.CodeArg, 2},
		{"[any{0} Nat]", "", 1, impl.CodeArg, 2},
		{"[any{2} Nat]", "", 1, impl.CodeArg, 2},
		{"[[id{1} Nat] #5]", "", 2, impl.CodeArg, 4},
		{"[[id{1} #5] Nat]", "", 1, impl.CodeArg, 2},
		{"[#3 #2]", "", 1, impl.CodeArg, 2},
		{"[[[Eq.refl{1} Nat] two] two]", "", 2, impl.CodeFun, 6},
		// the first of several is told
		{"[[add #5] #4]", "", 1, impl.CodeArg, 2},
		{"[[add two] [#9 #5]]", "", 2, impl.CodeArg, 5},
	})
}

func TestInferBinders(t *testing.T) {
	holdInferCases(t, convEnv(), convContext(), []inferCase{
		{"[^ x 0 Nat #0]", "[! x 0 Nat Nat]", 0, 0, 0},
		{"[^ y 2 #0 #0]", "[! y 2 #0 #1]", 0, 0, 0},
		{"[^ x 1 Nat [^ y 0 [#4 #0] #0]]", "[! x 1 Nat [! y 0 [#4 #0] [#5 #1]]]", 1, 0, 0},
		{"[^ x 0 *u [^ y 0 #0 #0]]", "[! x 0 *u [! y 0 #0 #1]]", 0, 0, 0},
		{"[^ x 0 two #0]", "", 0, impl.CodeSort, 2},
		{"[^ x 0 #2 #0]", "", 0, impl.CodeSort, 2},
		{"[^ x 0 add two]", "", 0, impl.CodeSort, 2},
		{"[^ x 0 [two two] #0]", "", 0, impl.CodeFun, 2},
		{"[^ x 0 *w #0]", "", 0, impl.CodeLevel, 0},
		// the type of A becomes a TermSort by its Whnf only
		{"[^ x 0 set #0]", "[! x 0 set set]", 1, 0, 0},
		{"[^ x 0 statement #0]", "[! x 0 statement statement]", 3, 0, 0},
		{"[^ x 0 [fam two] #0]", "[! x 0 [fam two] [fam two]]", 3, 0, 0},
		{"[^ x 0 fam #0]", "", 1, impl.CodeSort, 2},
		{"[^ x 0 prf #0]", "", 3, impl.CodeSort, 2},
		{"[! x 0 Nat Nat]", "*imax(1,1)", 0, 0, 0},
		{"[! x 0 Nat [#4 #0]]", "*imax(1,0)", 1, 0, 0},
		{"[! x 0 *u #0]", "*imax(u+1,u)", 0, 0, 0},
		{"[! x 0 #0 [! y 0 #1 *v]]", "*imax(1,imax(1,v+1))", 0, 0, 0},
		{"[! x 0 set statement]", "*imax(1,0)", 4, 0, 0},
		{"[! x 0 two Nat]", "", 0, impl.CodeSort, 2},
		{"[! x 0 Nat two]", "", 0, impl.CodeSort, 2},
		{"[! x 0 Nat #0]", "", 0, impl.CodeSort, 2},
		{"[! x 0 Nat [Nat.succ #0]]", "", 1, impl.CodeSort, 4},
		{"[! x 0 Nat fam]", "", 1, impl.CodeSort, 2},
		{"[! x 0 Nat [! y 0 #12 Nat]]", "", 0, impl.CodeSort, 3},
		{"[! x 0 Nat [! y 0 Nat #12]]", "", 0, impl.CodeSort, 3},
		// what stands behind the context
		{"[^ x 0 Nat [^ y 0 Unit [^ z 0 Nat [[add #0] #2]]]]", "[! x 0 Nat [! y 0 Unit [! z 0 Nat Nat]]]", 2, 0, 0},
		{"[^ x 0 Nat [^ y 0 Unit [^ z 0 Nat [[add #0] #1]]]]", "", 2, impl.CodeArg, 7},
		{"[^ P 0 [! n 0 Nat *0] [^ h 0 [! n 0 Nat [#1 #0]] [#0 two]]]", "[! P 0 [! n 0 Nat *0] [! h 0 [! n 0 Nat [#1 #0]] [#1 two]]]", 2, 0, 0},
	})
}

func TestInferLets(t *testing.T) {
	holdInferCases(t, convEnv(), convContext(), []inferCase{
		{"[= x Nat two [Nat.succ #0]]", "Nat", 2, 0, 0},
		{"[= x Nat two #12]", "Nat", 1, 0, 0},
		{"[= x *1 Nat [^ y 0 #0 #0]]", "[! y 0 Nat Nat]", 1, 0, 0},
		{"[= x set [any{1} set] #0]", "set", 1 + 2 + 1 + 2, 0, 0},
		{"[= f Fun #9 [#0 two]]", "Nat", 3, 0, 0},
		{"[= f [! n 0 Nat Nat] fun [#0 two]]", "Nat", 4, 0, 0},
		{"[= x two two #0]", "", 0, impl.CodeSort, 3},
		{"[= x fam two #0]", "", 1, impl.CodeSort, 3},
		{"[= x Nat Unit.star #0]", "", 1, impl.CodeArg, 3},
		{"[= x Unit two two]", "", 1, impl.CodeArg, 3},
		{"[= x Nat Nat #0]", "", 1, impl.CodeArg, 3},
		// it has a type only with v put
		{"[= n Nat two [[by #0] [[Eq.refl{1} Nat] two]]]", "Nat", 5, 0, 0},
		{"[[^ n 0 Nat [[by #0] [[Eq.refl{1} Nat] two]]] two]", "", 7, impl.CodeArg, 9},
		{"[= X *1 Nat [#10 [any{1} #0]]]", "Nat", 3, 0, 0},
		{"[= X *1 Nat [^ x 0 #0 [Nat.succ #0]]]", "[! x 0 Nat Nat]", 2, 0, 0},
		{"[= n Nat two [[at #0] [any{2} [[Vec{1} Nat] two]]]]", "[[Vec{1} Nat] [Nat.succ two]]", 6, 0, 0},
		// what comes up within
		{"[= x Nat two [#0 #0]]", "", 1, impl.CodeFun, 5},
		{"[= x Nat two [Nat.succ ?0]]", "", 1, impl.CodeHole, 5},
		{"[= x Nat two [^ y 0 #0 #0]]", "", 1, impl.CodeSort, 5},
		{"[= x Nat two [! y 0 Nat #1]]", "", 1, impl.CodeSort, 5},
		{"[= x Nat two *w]", "", 1, impl.CodeLevel, 3},
		{"[= x Nat two [. Prod 0 #0]]", "", 1, impl.CodeProj, 4},
		{"[= x Nat two [#10 #6]]", "", 2, impl.CodeArg, 5},
		{"[= x Nat two ?0]", "", 1, impl.CodeHole, 3},
	})
}

func TestInferProjections(t *testing.T) {
	pairs := "[[Sigma{0,1} Nat] [^ n 0 Nat [[Vec{1} Nat] #0]]]"
	holdInferCases(t, convEnv(), convContext(), []inferCase{
		{"[. Prod 0 #7]", "Nat", 0, 0, 0},
		{"[. Prod 1 #6]", "Nat", 0, 0, 0},
		{"[. Prod 1 pair]", "Unit", 1, 0, 0},
		{"[. Prod 0 [[id{1} Pair] pair]]", "Nat", 3, 0, 0},
		{"[^ s 0 " + pairs + " [. Sigma 1 #0]]", "[! s 0 " + pairs + " [[^ n 0 Nat [[Vec{1} Nat] #0]] [. Sigma 0 #0]]]", 4, 0, 0},
		{"[^ s 0 Two [. Two 1 #0]]", "[! s 0 Two [[[Eq{1} Nat] [. Two 0 #0]] two]]", 0, 0, 0},
		{"[. Prod 0 [[[[Prod.mk{u,0} *u] Nat] [any{u+1} *u]] two]]", "*u", 5, 0, 0},
		// of another structure, or of none
		{"[. Box 0 #7]", "", 0, impl.CodeProj, 1},
		{"[. Sigma 0 #7]", "", 0, impl.CodeProj, 1},
		{"[. Prod 0 #11]", "", 0, impl.CodeProj, 1},
		{"[. Prod 0 #9]", "", 0, impl.CodeProj, 1},
		{"[. Prod 0 Nat]", "", 0, impl.CodeProj, 1},
		{"[. Two 0 pair]", "", 1, impl.CodeProj, 1},
		{"[. Prod 0 fun]", "", 1, impl.CodeProj, 1},
		// with too few arguments, or too many
		{"[. Prod 0 few]", "", 0, impl.CodeProj, 1},
		{"[. Prod 0 much]", "", 0, impl.CodeProj, 1},
		// the name of a binder, and that of another projection
		{"[. Prod 0 odd]", "", 0, impl.CodeProj, 1},
		{"[. Two 0 stuck]", "", 0, impl.CodeProj, 1},
		// what stands in it comes first
		{"[. Prod 0 ?0]", "", 0, impl.CodeHole, 0},
		{"[. Prod 0 [. Prod 0 #7]]", "", 0, impl.CodeProj, 2},
		{"[. Prod 0 [two two]]", "", 0, impl.CodeFun, 2},
	})
}

// Where a code comes from: the first node of a term, the last one, and some
// between.
func TestPlacesOfCodes(t *testing.T) {
	holdInferCases(t, convEnv(), convContext(), []inferCase{
		{"[[[?0 two] two] two]", "", 0, impl.CodeHole, 0},
		{"[[[add ?0] two] two]", "", 0, impl.CodeHole, 1},
		{"[[[add two] ?0] two]", "", 1, impl.CodeHole, 3},
		{"[[[add two] two] ?0]", "", 2, impl.CodeHole, 5},
		{"[[[add two] two] two]", "", 2, impl.CodeFun, 6},
		{"[[[add #5] two] two]", "", 1, impl.CodeArg, 2},
		{"[[[add two] #5] two]", "", 2, impl.CodeArg, 4},
		{"[^ x 0 Nat [^ y 0 Nat ?0]]", "", 0, impl.CodeHole, 2},
		{"[^ x 0 Nat [^ y 0 ?0 Nat]]", "", 0, impl.CodeHole, 1},
		{"[^ x 0 ?0 [^ y 0 Nat Nat]]", "", 0, impl.CodeHole, 0},
		{"[^ x 0 [^ y 0 Nat Nat] [^ y 0 ?0 Nat]]", "", 0, impl.CodeSort, 6},
		{"[^ x 0 [! y 0 Nat Nat] [^ y 0 ?0 Nat]]", "", 0, impl.CodeHole, 3},
		{"[^ x 0 [! y 0 Nat Nat] [^ y 0 two Nat]]", "", 0, impl.CodeSort, 5},
		{"[^ x 0 [! y 0 Nat two] [^ y 0 two Nat]]", "", 0, impl.CodeSort, 2},
		{"[! x 0 Nat [! y 0 Nat [! z 0 two Nat]]]", "", 0, impl.CodeSort, 4},
		{"[! x 0 Nat [! y 0 two [! z 0 Nat Nat]]]", "", 0, impl.CodeSort, 5},
		{"[! x 0 two [! y 0 Nat [! z 0 Nat Nat]]]", "", 0, impl.CodeSort, 6},
		{"[! x 0 Nat [! y 0 Nat [! z 0 Nat two]]]", "", 0, impl.CodeSort, 4},
		{"[[add [Nat.succ [Nat.succ *w]]] two]", "", 0, impl.CodeLevel, 3},
		{"[[add [Nat.succ [Nat.succ *0]]] two]", "", 1, impl.CodeArg, 4},
		{"[[add [Nat.succ [Nat.succ two]]] [two two]]", "", 3, impl.CodeFun, 9},
		{"[[add two] [. Prod 0 [. Prod 0 two]]]", "", 1, impl.CodeProj, 4},
		{"[. Prod 0 [[id{1} Pair] [. Prod 0 #11]]]", "", 1, impl.CodeProj, 4},
		{"[[id{1} [! x 0 Nat [! y 0 Nat two]]] two]", "", 0, impl.CodeSort, 4},
		{"[[[#9 two] two] ?0]", "", 1, impl.CodeFun, 4},
		// the same part again, in other places
		{"[[add [#9 #11]] [#9 [#9 #5]]]", "", 3, impl.CodeArg, 8},
		{"[[add [#9 #11]] [[add [#9 #11]] [#9 two]]]", "Nat", 7, 0, 0},
		{"[[add [#9 #11]] [[add [#9 #11]] [[#9 #11] ?0]]]", "", 5, impl.CodeHole, 13},
	})
}

// Within a TermLet's Put all codes have the TermLet's place; those in its A and v
// have places of their own.
func TestPlacesInLets(t *testing.T) {
	holdInferCases(t, convEnv(), convContext(), []inferCase{
		{"[= x ?0 two two]", "", 0, impl.CodeHole, 0},
		{"[= x Nat ?0 two]", "", 0, impl.CodeHole, 1},
		{"[= x Nat two ?0]", "", 1, impl.CodeHole, 3},
		{"[= x [two two] two two]", "", 0, impl.CodeFun, 2},
		{"[= x Nat [two two] two]", "", 0, impl.CodeFun, 3},
		{"[= x Nat two [two two]]", "", 1, impl.CodeFun, 5},
		// around it and behind it
		{"[[add [= x Nat two [two two]]] ?0]", "", 1, impl.CodeFun, 6},
		{"[[add ?0] [= x Nat two [two two]]]", "", 0, impl.CodeHole, 1},
		{"[[add two] [= x Nat two [two two]]]", "", 2, impl.CodeFun, 8},
		{"[^ y 0 Nat [= x Nat [#1 #0] [two two]]]", "", 0, impl.CodeFun, 4},
		{"[^ y 0 Nat [= x Nat #0 [#1 #0]]]", "", 1, impl.CodeFun, 6},
		// a TermLet within the Put of another one: in its b, its v, its A
		{"[= x Nat two [= y Nat #0 [#0 #1]]]", "", 2, impl.CodeFun, 8},
		{"[= x Nat two [= y Nat [#0 #0] #0]]", "", 1, impl.CodeFun, 8},
		{"[= x Nat two [= y [#0 #0] #0 #0]]", "", 1, impl.CodeFun, 8},
		{"[= x Nat two [= y Unit #0 #0]]", "", 2, impl.CodeArg, 6},
		{"[= x Nat two [= y #0 #0 #0]]", "", 1, impl.CodeSort, 6},
		{"[= x Nat two [= y Nat #0 [= z Nat #0 ?0]]]", "", 3, impl.CodeHole, 9},
		{"[= x Nat two [Nat.succ [= y Nat #0 ?0]]]", "", 2, impl.CodeHole, 8},
		// in v or A of another one: the inner one's own place
		{"[= x Nat [= y Nat two ?0] #0]", "", 1, impl.CodeHole, 4},
		{"[= x Nat [= y Nat ?0 #0] #0]", "", 0, impl.CodeHole, 2},
		{"[= x Nat [= y two two #0] #0]", "", 0, impl.CodeSort, 4},
		{"[= x [= y *1 Nat ?0] two #0]", "", 1, impl.CodeHole, 3},
		{"[= x [= y *1 ?0 #0] two #0]", "", 0, impl.CodeHole, 1},
		{"[= x [= y *1 Nat #0] two ?0]", "", 3, impl.CodeHole, 6},
		{"[= x [= y *1 Nat #0] [= y Nat two [= z Nat #0 ?0]] #0]", "", 3, impl.CodeHole, 10},
		// what v has comes up again where it was put, but not the first time
		{"[= x Nat [= y Nat two #0] [#0 ?0]]", "", 3, impl.CodeHole, 8},
		// in a function that is applied
		{"[[= x Nat two #10] ?0]", "", 1, impl.CodeHole, 4},
		{"[[= x Nat two [#10 ?0]] ?0]", "", 1, impl.CodeHole, 5},
		{"[. Prod 0 [= x Nat two ?0]]", "", 1, impl.CodeHole, 3},
		{"[! x 0 [= y Nat two #0] Nat]", "", 1, impl.CodeSort, 5},
		{"[! x 0 [= y Nat two #1] #0]", "", 2, impl.CodeSort, 5},
		{"[! x 0 [= y Nat two ?0] Nat]", "", 1, impl.CodeHole, 3},
	})
}

// Kids come from the first one to the last, ahead of the node's own rule; A must
// be a type ahead of what stands behind it.
func TestOrderOfCodes(t *testing.T) {
	holdInferCases(t, convEnv(), convContext(), []inferCase{
		// f and a ahead of CodeFun and CodeArg
		{"[two ?0]", "", 0, impl.CodeHole, 1},
		{"[?0 *w]", "", 0, impl.CodeHole, 0},
		{"[*w ?0]", "", 0, impl.CodeLevel, 0},
		{"[two *w]", "", 0, impl.CodeLevel, 1},
		{"[two [two two]]", "", 0, impl.CodeFun, 3},
		{"[[two two] ?0]", "", 0, impl.CodeFun, 2},
		{"[[two ?0] [two two]]", "", 0, impl.CodeHole, 1},
		{"[[#9 #5] ?0]", "", 1, impl.CodeArg, 2},
		{"[[#9 #5] [two two]]", "", 1, impl.CodeArg, 2},
		{"[fun ?0]", "", 0, impl.CodeHole, 1},
		{"[two [^ x 0 two #0]]", "", 0, impl.CodeSort, 3},
		// CodeFun ahead of CodeArg, and the steps for it ahead of the comparison
		{"[#11 #5]", "", 0, impl.CodeFun, 2},
		{"[fun #5]", "", 2, impl.CodeArg, 2},
		// A, that it is a type, then what stands behind it
		{"[^ x 0 ?0 *w]", "", 0, impl.CodeHole, 0},
		{"[^ x 0 two ?0]", "", 0, impl.CodeSort, 2},
		{"[^ x 0 set ?0]", "", 1, impl.CodeHole, 1},
		{"[^ x 0 Nat *w]", "", 0, impl.CodeLevel, 1},
		{"[! x 0 two ?0]", "", 0, impl.CodeSort, 2},
		{"[! x 0 ?0 two]", "", 0, impl.CodeHole, 0},
		{"[! x 0 Nat [two ?0]]", "", 0, impl.CodeHole, 2},
		{"[! x 0 set two]", "", 1, impl.CodeSort, 2},
		{"[= x two ?0 *w]", "", 0, impl.CodeSort, 3},
		{"[= x ?0 *w two]", "", 0, impl.CodeHole, 0},
		{"[= x set ?0 *w]", "", 1, impl.CodeHole, 1},
		{"[= x Nat *w ?0]", "", 0, impl.CodeLevel, 1},
		{"[= x Nat Unit.star ?0]", "", 1, impl.CodeArg, 3},
		{"[= x Nat two ?0]", "", 1, impl.CodeHole, 3},
		{"[= x Nat two [*w ?0]]", "", 1, impl.CodeLevel, 5},
	})
}

func TestCheck(t *testing.T) {
	e, ctx := convEnv(), convContext()
	w := slowStepsIn(e)
	for _, c := range []struct {
		x, want           string
		work, code, place int
	}{
		{"two", "Nat", 1, 0, 0},
		{"#2", "[#3 #11]", 1, 0, 0},
		{"[^ x 0 Nat #0]", "[! y 2 Nat Nat]", 1, 0, 0},
		{"*u", "*max(u,u)+1", 1, 0, 0},
		// the same, written otherwise
		{"two", "[[id{2} *1] Nat]", 4, 0, 0},
		{"[any{1} [[id{2} *1] Nat]]", "Nat", 7, 0, 0},
		{"[^ x 0 Nat #0]", "Fun", 2, 0, 0},
		{"fun", "[! x 0 Nat Nat]", 2, 0, 0},
		{"#2", "[#3 [[^ x 0 Nat #0] #11]]", 3, 0, 0},
		{"#2", "[#3 [= x Nat #11 #0]]", 3, 0, 0},
		// another one, which is told at the last node
		{"two", "Unit", 1, impl.CodeArg, 0},
		{"[Nat.succ two]", "Unit", 2, impl.CodeArg, 2},
		{"[[add two] #11]", "[#3 #11]", 3, impl.CodeArg, 4},
		{"#2", "[#3 #10]", 2, impl.CodeArg, 0},
		{"Nat", "*0", 1, impl.CodeArg, 0},
		{"[= x Nat two #0]", "Unit", 2, impl.CodeArg, 3},
		{"two", "two", 2, impl.CodeArg, 0},
		{"two", "?0", 1, impl.CodeArg, 0},
		{"two", "*w", 1, impl.CodeArg, 0},
		// a code of Infer comes ahead of it
		{"[Nat.succ ?0]", "Unit", 0, impl.CodeHole, 1},
		{"[two two]", "Unit", 0, impl.CodeFun, 2},
		{"[[two two] two]", "Unit", 0, impl.CodeFun, 2},
		{"[= x Nat two ?0]", "Unit", 1, impl.CodeHole, 3},
		{"*w", "Unit", 0, impl.CodeLevel, 0},
		// a want that is no type
		{"[Nat.succ two]", "[two two]", 3, impl.CodeArg, 2},
		{"[any{0} [#3 #11]]", "[#3 [?0 two]]", 4, impl.CodeArg, 4},
		{"[^ h 0 [#3 [?0 two]] #0]", "Nat", 0, impl.CodeHole, 1},
	} {
		q := checkAsk{askCheck, checkParams(), ctx, read(c.x), read(c.want)}
		q.holdEveryFuel(t, w, checkAnswer{"", c.work, c.code, c.place})
		if written(q.x) != c.x || written(q.want) != c.want {
			t.Errorf("%s: a term was changed", q.text())
		}
	}
}

// Codes of the comparison itself are told at the last node too.
func TestCheckWithACodeOfTheComparison(t *testing.T) {
	e := convEnv()
	w := slowStepsIn(e)
	ctx := contextOf("Nat", "[! n 0 Nat *0]", "[#0 [?0 two]]", "[#1 [two two]]", "[#2 "+omega+"]", "Unit")
	for _, c := range []struct {
		x, want           string
		work, code, place int
	}{
		{"#3", "[#4 [?0 one]]", 2, impl.CodeHole, 0},
		{"[= x Unit #0 #4]", "[#4 [?0 one]]", 3, impl.CodeHole, 3},
		{"[. Prod 0 [[[[Prod.mk{0,0} Nat] Nat] two] two]]", "[#4 [?0 one]]", 5, impl.CodeArg, 9},
		{"[= x Unit #0 #3]", "[#4 [two one]]", 3, impl.CodeFun, 3},
	} {
		q := checkAsk{askCheck, nil, ctx, read(c.x), read(c.want)}
		q.holdEveryFuel(t, w, checkAnswer{"", c.work, c.code, c.place})
	}
	// a comparison without end
	for _, fuel := range []int{0, 1, 5, 500, impl.MaxFuel} {
		q := checkAsk{askCheck, nil, ctx, read("[= x Unit #0 #2]"), read("[#4 two]")}
		q.hold(t, e, fuel, checkAnswer{"", fuel, impl.CodeFuel, 3})
	}
}

func TestCheckCtx(t *testing.T) {
	e := convEnv()
	w := slowStepsIn(e)
	for _, c := range []struct {
		texts             []string
		work, code, place int
	}{
		{nil, 0, 0, 0},
		{[]string{"Nat"}, 0, 0, 0},
		{[]string{"*u", "#0", "#1", "[! x 0 #2 *v]", "[#0 #1]"}, 1, 0, 0},
		{[]string{"set", "statement", "[fam two]"}, 1 + 3 + 3, 0, 0},
		{[]string{"Set", "#0", "#1"}, 1 + 1, 0, 0},
		// no type: at the first, a middle and the last place
		{[]string{"two", "Nat", "Nat"}, 0, impl.CodeSort, 0},
		{[]string{"Nat", "#0", "Nat"}, 0, impl.CodeSort, 1},
		{[]string{"*1", "#0", "#0"}, 0, impl.CodeSort, 2},
		{[]string{"set", "fam", "two"}, 2, impl.CodeSort, 1},
		{[]string{"set", "prf"}, 4, impl.CodeSort, 1},
		// another code
		{[]string{"*w", "Nat"}, 0, impl.CodeLevel, 0},
		{[]string{"Nat", "[[[Eq{1} Nat] #0] ?0]", "two"}, 2, impl.CodeHole, 1},
		{[]string{"Nat", "Nat", "[#0 #0]"}, 0, impl.CodeFun, 2},
		{[]string{"Nat", "Unit", "[[[Eq{1} Nat] #1] #0]"}, 3, impl.CodeArg, 2},
		{[]string{"Nat", "Unit", "[[[Eq{1} Nat] #1] [. Prod 0 #0]]"}, 2, impl.CodeProj, 2},
		{[]string{"Nat", "[= x Nat #0 [#0 #0]]", "Nat"}, 1, impl.CodeFun, 1},
		{[]string{"Nat", "Nat", "Nat", "[^ x 0 Nat Nat]"}, 0, impl.CodeSort, 3},
		// of two the first one
		{[]string{"Nat", "two", "?0"}, 0, impl.CodeSort, 1},
		{[]string{"Nat", "?0", "two"}, 0, impl.CodeHole, 1},
		// one that is used is taken for what it says
		{[]string{"*1", "[! x 0 #0 #1]", "[! x 0 #1 [[[Eq{1} #2] #0] [#1 #0]]]"}, 4, 0, 0},
	} {
		ctx := contextOf(c.texts...)
		before := copyTerms(ctx)
		q := checkAsk{way: askCtx, params: checkParams(), ctx: ctx}
		q.holdEveryFuel(t, w, checkAnswer{"", c.work, c.code, c.place})
		if !equalLists(ctx, before) {
			t.Errorf("%s: the context was changed", c.texts)
		}
	}
	q := checkAsk{way: askCtx, params: checkParams(), ctx: convContext()}
	q.holdEveryFuel(t, w, checkAnswer{"", 6, 0, 0})
	// its last type is written with another level than it has
	q.ctx = plainContext()
	q.holdEveryFuel(t, w, checkAnswer{"", 7, impl.CodeArg, 5})
}
