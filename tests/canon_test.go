package tests

import (
	"testing"

	"loop.example/g00005/impl"
)

func TestCanonOfFunctions(t *testing.T) {
	holdCanonCases(t, askCanon, canonEnv(), convContext(), []typeCase{
		// the function, its argument's type, what it gives, and the argument there
		{"#9", "[^ x 0 Nat [#10 #0]]", 4, 0},
		{"#8", "[^ x 0 Nat [#9 #0]]", 4, 0},
		{"Nat.succ", "[^ x 0 Nat [Nat.succ #0]]", 4, 0},
		// one step more for a TermLam; names and modes are others
		{"[^ y 2 Nat [#10 #0]]", "[^ x 0 Nat [#10 #0]]", 5, 0},
		{"[^ y 0 Nat #0]", "[^ x 0 Nat #0]", 4, 0},
		{"[^ n 0 Nat two]", "[^ x 0 Nat [Nat.succ [Nat.succ Nat.zero]]]", 7, 0},
		{"[^ n 0 Nat #4]", "[^ x 0 Nat [^ x 0 Nat [#5 #0]]]", 8, 0},
		// what it gives is of a type with one term
		{"[^ y 1 Unit #0]", "[^ x 0 Unit Unit.star]", 3, 0},
		{"[^ n 0 Nat #5]", "[^ x 0 Nat Unit.star]", 3, 0},
		// definitions, with none or some of their arguments
		{"first", "[^ x 0 Nat [^ x 0 Nat #1]]", 8, 0},
		{"[first two]", "[^ x 0 Nat [Nat.succ [Nat.succ Nat.zero]]]", 9, 0},
		{"add", "[^ x 0 Nat [^ x 0 Nat [[[[Nat.rec{1} [^ x 0 Nat Nat]] #1] [^ x 0 Nat [^ x 0 Nat [Nat.succ #0]]]] #0]]]", 26, 0},
		{"[add #11]", "[^ x 0 Nat [[[[Nat.rec{1} [^ x 0 Nat Nat]] #12] [^ x 0 Nat [^ x 0 Nat [Nat.succ #0]]]] #0]]", 24, 0},
		{"[id{1} Nat]", "[^ x 0 Nat #0]", 6, 0},
		{"id{u}", "[^ x 0 *u [^ x 0 #0 #0]]", 8, 0},
		{"[[id{1} Fun] #9]", "[^ x 0 Nat [#10 #0]]", 8, 0},
		// types that become TermPis
		{"fun", "[^ x 0 Nat [fun #0]]", 6, 0},
		{"slow", "[^ x 0 Nat [slow #0]]", 12, 0},
		{"unary", "[^ x 0 Nat [^ x 0 Nat [[unary #1] #0]]]", 11, 0},
		{"[unary #11]", "[^ x 0 Nat [[unary #12] #0]]", 9, 0},
		{"[nary two]", "[^ x 0 Nat [^ x 0 Nat [[[nary [Nat.succ [Nat.succ Nat.zero]]] #1] #0]]]", 28, 0},
		// functions of functions
		{"of", "[^ x 0 [! x 0 Nat Nat] [of [^ x 0 Nat [#1 #0]]]]", 9, 0},
		{"[of #9]", "[of [^ x 0 Nat [#10 #0]]]", 5, 0},
		{"[of [^ n 1 Nat [#10 #0]]]", "[of [^ x 0 Nat [#10 #0]]]", 6, 0},
		{"[^ f 0 Fun [#0 two]]", "[^ x 0 [! x 0 Nat Nat] [#0 [Nat.succ [Nat.succ Nat.zero]]]]", 13, 0},
		{"[^ f 0 [! g 0 [! n 0 Nat Nat] Nat] [#0 Nat.succ]]", "[^ x 0 [! x 0 [! x 0 Nat Nat] Nat] [#0 [^ x 0 Nat [Nat.succ #0]]]]", 12, 0},
	})
}

func TestCanonOfTypesAtASort(t *testing.T) {
	holdCanonCases(t, askCanon, canonEnv(), convContext(), []typeCase{
		// once as a term, once as a type
		{"Nat", "Nat", 2, 0},
		{"#0", "#0", 2, 0},
		{"*0", "*0", 2, 0},
		{"*u", "*u", 2, 0},
		{"*max(v,u)", "*max(v,u)", 2, 0},
		{"Set", "*1", 3, 0},
		{"Fun", "[! x 0 Nat Nat]", 5, 0},
		{"Unary", "[! x 0 Nat [! x 0 Nat Nat]]", 8, 0},
		{"[! y 1 Nat [! z 2 #1 *u]]", "[! x 0 Nat [! x 0 #1 *u]]", 6, 0},
		{"[pow two]", "[! x 0 Nat [! x 0 Nat Nat]]", 15, 0},
		{"[pow #11]", "[[[[Nat.rec{2} [^ x 0 Nat *1]] Nat] [^ x 0 Nat [^ x 0 *1 [! x 0 Nat #1]]]] #11]", 24, 0},
		{"[= X *1 Nat [! x 0 #0 #1]]", "[! x 0 Nat Nat]", 5, 0},
		{"[[^ X 0 *1 [! x 0 #0 #1]] Nat]", "[! x 0 Nat Nat]", 5, 0},
		// families and variables with arguments
		{"[#3 #11]", "[#3 #11]", 3, 0},
		{"[#3 [[add #11] Nat.zero]]", "[#3 #11]", 7, 0},
		{"[[[Eq{1} Nat] two] #11]", "[[[Eq{1} Nat] [Nat.succ [Nat.succ Nat.zero]]] #11]", 9, 0},
		{"[[Vec{1} [[id{2} *1] Nat]] two]", "[[Vec{1} Nat] [Nat.succ [Nat.succ Nat.zero]]]", 11, 0},
		{"[any{2} *1]", "[any{2} *1]", 4, 0},
		// the type becomes a TermSort
		{"set", "set", 3, 0},
		{"[fam two]", "[fam [Nat.succ [Nat.succ Nat.zero]]]", 9, 0},
		{"statement", "statement", 5, 0},
		// functions that give types
		{"#3", "[^ x 0 Nat [#4 #0]]", 5, 0},
		{"Prod{0,0}", "[^ x 0 *1 [^ x 0 *1 [[Prod{0,0} #1] #0]]]", 10, 0},
		{"[Prod{u,0} *u]", "[^ x 0 *1 [[Prod{u,0} *u] #0]]", 8, 0},
		{"[^ n 0 Nat [[Vec{1} Nat] #0]]", "[^ x 0 Nat [[Vec{1} Nat] #0]]", 8, 0},
	})
}

func TestCanonOfProofs(t *testing.T) {
	holdCanonCases(t, askCanon, canonEnv(), convContext(), []typeCase{
		{"#2", "?0", 1, 0},
		{"#1", "?0", 1, 0},
		{"easy", "?0", 1, 0},
		{"[[Eq.refl{1} Nat] two]", "?0", 1, 0},
		{"[any{0} False]", "?0", 1, 0},
		{"True.intro", "?0", 1, 0},
		// nothing is done with the proof itself
		{"[[id{0} [#3 #11]] #2]", "?0", 1, 0},
		{"[[any{0} [! n 0 Nat [#4 #0]]] #11]", "?0", 1, 0},
		{"[= x Nat " + omega + " easy]", "?0", 1, 0},
		// a type that becomes a proposition, and one whose sort becomes Prop
		{"prf", "?0", 4, 0},
		{"[any{2} statement]", "?0", 4, 0},
		// propositions with one constructor are no structures
		{"[any{0} [[And True] [#3 #11]]]", "?0", 1, 0},
		{"[[[[And.intro True] [#3 #11]] True.intro] #2]", "?0", 1, 0},
		// within functions
		{"[any{0} [! n 0 Nat [#4 #0]]]", "[^ x 0 Nat ?0]", 3, 0},
		{"[^ n 0 [#3 #11] #0]", "[^ x 0 [#3 #11] ?0]", 4, 0},
		{"[^ n 0 [#3 #11] [^ m 0 Nat #1]]", "[^ x 0 [#3 #11] [^ x 0 Nat ?0]]", 6, 0},
		// as arguments, also where a hole is
		{"[[by #11] #2]", "[[by #11] ?0]", 3, 0},
		{"[[by #11] ?3]", "[[by #11] ?0]", 3, 0},
		{"[[by two] [[Eq.refl{1} Nat] two]]", "[[by [Nat.succ [Nat.succ Nat.zero]]] ?0]", 6, 0},
		{"[[proved #11] [any{0} [[[Eq{1} Nat] #11] #11]]]", "[^ x 0 Nat [[[proved #12] ?0] #0]]", 6, 0},
		// within pairs
		{"[any{1} Two]", "[[Two.mk [. Two 0 [any{1} Two]]] ?0]", 5, 0},
		{"[[Two.mk two] [[Eq.refl{1} Nat] two]]", "[[Two.mk [Nat.succ [Nat.succ Nat.zero]]] ?0]", 7, 0},
		{"[[[[Prod.mk{0,0} Nat] Nat] [[by #11] #2]] two]", "[[[[Prod.mk{0,0} Nat] Nat] [[by #11] ?0]] [Nat.succ [Nat.succ Nat.zero]]]", 14, 0},
		// types that may be in Prop have terms as others
		{"[any{u} [any{u+1} *u]]", "[any{u} [any{u+1} *u]]", 5, 0},
		{"[any{v} [any{v+1} *imax(u,0)]]", "?0", 1, 0},
	})
}

func TestCanonOfPairs(t *testing.T) {
	holdCanonCases(t, askCanon, canonEnv(), convContext(), []typeCase{
		// twice the work for each parameter: it is a term at a TermSort
		{"#7", "[[[[Prod.mk{0,0} Nat] Nat] [. Prod 0 #7]] [. Prod 1 #7]]", 7, 0},
		{"pair", "[[[[Prod.mk{0,0} Nat] Unit] [. Prod 0 pair]] Unit.star]", 8, 0},
		{"[= p Pair pair #0]", "[[[[Prod.mk{0,0} Nat] Unit] [. Prod 0 pair]] Unit.star]", 9, 0},
		{"[[id{1} Pair] pair]", "[[[[Prod.mk{0,0} Nat] Unit] [. Prod 0 pair]] Unit.star]", 11, 0},
		{"[pairs #11]", "[[[[Prod.mk{0,0} Nat] Nat] [. Prod 0 [pairs #11]]] [. Prod 1 [pairs #11]]]", 9, 0},
		// no field: nothing is done with the term
		{"#5", "Unit.star", 1, 0},
		{"Unit.star", "Unit.star", 1, 0},
		{"[[id{1} Unit] " + omega + "]", "Unit.star", 1, 0},
		{"[. Prod 1 pair]", "Unit.star", 2, 0},
		// the constructor with all its arguments, or not
		{"[[[[Prod.mk{0,0} Nat] Nat] two] #11]", "[[[[Prod.mk{0,0} Nat] Nat] [Nat.succ [Nat.succ Nat.zero]]] #11]", 12, 0},
		{"[[[[Prod.mk{0,0} Nat] Nat] [. Prod 0 #7]] [. Prod 1 #7]]", "[[[[Prod.mk{0,0} Nat] Nat] [. Prod 0 #7]] [. Prod 1 #7]]", 9, 0},
		{"[[[[Prod.mk{0,0} Nat] Nat] [. Prod 1 #7]] [. Prod 0 #7]]", "[[[[Prod.mk{0,0} Nat] Nat] [. Prod 1 #7]] [. Prod 0 #7]]", 9, 0},
		{"[[[Prod.mk{0,0} Nat] Nat] two]", "[^ x 0 Nat [[[[Prod.mk{0,0} Nat] Nat] [Nat.succ [Nat.succ Nat.zero]]] #0]]", 14, 0},
		{"[[Box.mk{0} Nat] two]", "[[Box.mk{0} Nat] [Nat.succ [Nat.succ Nat.zero]]]", 8, 0},
		// the levels and the parameters of the type
		{"[any{1} [[Prod{0,0} Nat] #0]]", "[[[[Prod.mk{0,0} Nat] #0] [. Prod 0 [any{1} [[Prod{0,0} Nat] #0]]]] [. Prod 1 [any{1} [[Prod{0,0} Nat] #0]]]]", 19, 0},
		{"[any{1} [[Prod{max(0,0),0} [[id{2} *1] Nat]] #0]]", "[[[[Prod.mk{max(0,0),0} Nat] #0] [. Prod 0 [any{1} [[Prod{max(0,0),0} Nat] #0]]]] [. Prod 1 [any{1} [[Prod{max(0,0),0} Nat] #0]]]]", 31, 0},
		{"[any{max(u,v)+1} [[Prod{u,v} [any{u+2} *u+1]] [any{v+2} *v+1]]]", "[[[[Prod.mk{u,v} [any{u+2} *u+1]] [any{v+2} *v+1]] [. Prod 0 [any{max(u,v)+1} [[Prod{u,v} [any{u+2} *u+1]] [any{v+2} *v+1]]]]] [. Prod 1 [any{max(u,v)+1} [[Prod{u,v} [any{u+2} *u+1]] [any{v+2} *v+1]]]]]", 31, 0},
		// fields whose types use those in front
		{"[any{1} [[Sigma{0,1} Nat] [^ n 0 Nat [[Vec{1} Nat] #0]]]]", "[[[[Sigma.mk{0,1} Nat] [^ x 0 Nat [[Vec{1} Nat] #0]]] [. Sigma 0 [any{1} [[Sigma{0,1} Nat] [^ x 0 Nat [[Vec{1} Nat] #0]]]]]] [. Sigma 1 [any{1} [[Sigma{0,1} Nat] [^ x 0 Nat [[Vec{1} Nat] #0]]]]]]", 38, 0},
		{"[any{2} Some]", "[[[[Some.mk [. Some 0 [any{2} Some]]] [. Some 1 [any{2} Some]]] [^ x 0 [. Some 0 [any{2} Some]] [[. Some 2 [any{2} Some]] #0]]] ?0]", 17, 0},
		{
			"[any{2} [[[All{1,0} Nat] two] [^ x 0 Nat [[[Eq{1} Nat] #0] #0]]]]",
			"[[[[[[[All.mk{1,0} Nat] [Nat.succ [Nat.succ Nat.zero]]] [^ x 0 Nat [[[Eq{1} Nat] #0] #0]]]" +
				" [. All 0 [any{2} [[[All{1,0} Nat] [Nat.succ [Nat.succ Nat.zero]]] [^ x 0 Nat [[[Eq{1} Nat] #0] #0]]]]]]" +
				" [^ x 0 Nat [^ x 0 Nat ?0]]] ?0]" +
				" [. All 3 [any{2} [[[All{1,0} Nat] [Nat.succ [Nat.succ Nat.zero]]] [^ x 0 Nat [[[Eq{1} Nat] #0] #0]]]]]]",
			60, 0,
		},
		// fields that are functions, or structures, or both
		{"[any{1} [[Prod{0,0} [! n 0 Nat Nat]] Unit]]", "[[[[Prod.mk{0,0} [! x 0 Nat Nat]] Unit] [^ x 0 Nat [[. Prod 0 [any{1} [[Prod{0,0} [! x 0 Nat Nat]] Unit]]] #0]]] Unit.star]", 20, 0},
		{"[any{1} [Box{0} [Box{0} Nat]]]", "[[Box.mk{0} [Box{0} Nat]] [[Box.mk{0} Nat] [. Box 0 [. Box 0 [any{1} [Box{0} [Box{0} Nat]]]]]]]", 15, 0},
		{
			"[any{1} [[Prod{0,0} [[Prod{0,0} Nat] Nat]] Unit]]",
			"[[[[Prod.mk{0,0} [[Prod{0,0} Nat] Nat]] Unit]" +
				" [[[[Prod.mk{0,0} Nat] Nat] [. Prod 0 [. Prod 0 [any{1} [[Prod{0,0} [[Prod{0,0} Nat] Nat]] Unit]]]]] [. Prod 1 [. Prod 0 [any{1} [[Prod{0,0} [[Prod{0,0} Nat] Nat]] Unit]]]]]]" +
				" Unit.star]",
			37, 0,
		},
		{
			"[any{1} [Box{0} [! n 0 Nat [Box{0} Nat]]]]",
			"[[Box.mk{0} [! x 0 Nat [Box{0} Nat]]] [^ x 0 Nat [[Box.mk{0} Nat] [. Box 0 [[. Box 0 [any{1} [Box{0} [! x 0 Nat [Box{0} Nat]]]]] #0]]]]]",
			22, 0,
		},
		// functions of pairs
		{"[^ p 0 Pair [. Prod 0 #0]]", "[^ x 0 [[Prod{0,0} Nat] Unit] [. Prod 0 #0]]", 10, 0},
		{"[^ p 0 Pair #0]", "[^ x 0 [[Prod{0,0} Nat] Unit] [[[[Prod.mk{0,0} Nat] Unit] [. Prod 0 #0]] Unit.star]]", 16, 0},
	})
}

func TestCanonOfValues(t *testing.T) {
	holdCanonCases(t, askCanon, canonEnv(), convContext(), []typeCase{
		{"#11", "#11", 1, 0},
		{"some", "some", 1, 0},
		{"Nat.zero", "Nat.zero", 1, 0},
		{"two", "[Nat.succ [Nat.succ Nat.zero]]", 4, 0},
		{"trey", "[Nat.succ [Nat.succ [Nat.succ Nat.zero]]]", 7, 0},
		{"[Nat.succ #11]", "[Nat.succ #11]", 2, 0},
		{"[Nat.succ [Nat.succ one]]", "[Nat.succ [Nat.succ [Nat.succ Nat.zero]]]", 5, 0},
		{"[List.nil{0} Nat]", "[List.nil{0} Nat]", 3, 0},
		{"[[[List.cons{0} Nat] two] [List.nil{0} [[id{2} *1] Nat]]]", "[[[List.cons{0} Nat] [Nat.succ [Nat.succ Nat.zero]]] [List.nil{0} Nat]]", 13, 0},
		{"[[at two] [any{2} [[Vec{1} Nat] two]]]", "[[at [Nat.succ [Nat.succ Nat.zero]]] [any{2} [[Vec{1} Nat] [Nat.succ [Nat.succ Nat.zero]]]]]", 14, 0},
		// recursors that make steps
		{"[[add #11] Nat.zero]", "#11", 5, 0},
		{"[[add #11] [Nat.succ Nat.zero]]", "[Nat.succ #11]", 9, 0},
		{"[[[[Nat.rec{1} [^ t 0 Nat Nat]] #11] " + addStep + "] two]", "[Nat.succ [Nat.succ #11]]", 12, 0},
		{"[[[[[Prod.rec{1,0,0} Nat] Nat] [^ t 0 [[Prod{0,0} Nat] Nat] Nat]] [^ a 0 Nat [^ b 0 Nat #1]]] #7]", "[. Prod 0 #7]", 5, 0},
		// and such that are stuck, with arguments behind what they look at
		{"[[add #11] #10]", "[[[[Nat.rec{1} [^ x 0 Nat Nat]] #11] [^ x 0 Nat [^ x 0 Nat [Nat.succ #0]]]] #10]", 22, 0},
		{"[[[[Nat.rec{1} [^ t 0 Nat Nat]] two] " + addStep + "] #11]", "[[[[Nat.rec{1} [^ x 0 Nat Nat]] [Nat.succ [Nat.succ Nat.zero]]] [^ x 0 Nat [^ x 0 Nat [Nat.succ #0]]]] #11]", 23, 0},
		{
			"[[[[[Nat.rec{1} [^ t 0 Nat [! n 0 Nat Nat]]] #9] [^ n 0 Nat [^ ih 0 [! n 0 Nat Nat] #0]]] #11] two]",
			"[[[[[Nat.rec{1} [^ x 0 Nat [! x 0 Nat Nat]]] [^ x 0 Nat [#10 #0]]] [^ x 0 Nat [^ x 0 [! x 0 Nat Nat] [^ x 0 Nat [#1 #0]]]]] #11] [Nat.succ [Nat.succ Nat.zero]]]",
			35, 0,
		},
		{
			"[[[[[Nat.rec{1} [^ t 0 Nat Fun]] #9] [^ n 0 Nat [^ ih 0 Fun #0]]] #11] two]",
			"[[[[[Nat.rec{1} [^ x 0 Nat [! x 0 Nat Nat]]] [^ x 0 Nat [#10 #0]]] [^ x 0 Nat [^ x 0 [! x 0 Nat Nat] [^ x 0 Nat [#1 #0]]]]] #11] [Nat.succ [Nat.succ Nat.zero]]]",
			42, 0,
		},
		{
			"[[[[Nat.rec{1} [^ t 0 Nat Fun]] #9] [^ n 0 Nat [^ ih 0 Fun #0]]] #11]",
			"[^ x 0 Nat [[[[[Nat.rec{1} [^ x 0 Nat [! x 0 Nat Nat]]] [^ x 0 Nat [#11 #0]]] [^ x 0 Nat [^ x 0 [! x 0 Nat Nat] [^ x 0 Nat [#1 #0]]]]] #12] #0]]",
			41, 0,
		},
		{"[[Empty.rec{1} [^ t 0 Empty Nat]] [any{1} Empty]]", "[[Empty.rec{1} [^ x 0 Empty Nat]] [any{1} Empty]]", 10, 0},
		{"[[False.rec{1} [^ t 0 False Nat]] [any{0} False]]", "[[False.rec{1} [^ x 0 False Nat]] ?0]", 8, 0},
		{"[[[[Nat.rec{0} [^ t 0 Nat True]] True.intro] [^ n 0 Nat [^ ih 0 True #0]]] #11]", "?0", 2, 0},
	})
}

func TestCanonOfQuotients(t *testing.T) {
	relation := "[^ a 0 Nat [^ b 0 Nat True]]"
	form := "[^ x 0 Nat [^ x 0 Nat True]]"
	typ := "[[Quot{0} Nat] " + relation + "]"
	lift := func(relation, f, h, q string) string {
		return "[[[[[[Quot.lift{0,1} Nat] " + relation + "] Nat] " + f + "] " + h + "] " + q + "]"
	}
	holdCanonCases(t, askCanon, canonEnv(), convContext(), []typeCase{
		{typ, "[[Quot{0} Nat] " + form + "]", 12, 0},
		{"[any{1} " + typ + "]", "[any{1} [[Quot{0} Nat] " + form + "]]", 13, 0},
		{"[[[Quot.mk{0} Nat] " + relation + "] two]", "[[[Quot.mk{0} Nat] " + form + "] [Nat.succ [Nat.succ Nat.zero]]]", 15, 0},
		{"[[Quot.mk{0} Nat] " + relation + "]", "[^ x 0 Nat [[[Quot.mk{0} Nat] " + form + "] #0]]", 14, 0},
		{lift(relation, "#9", "?7", "[[[Quot.mk{0} Nat] "+relation+"] two]"), "[#9 [Nat.succ [Nat.succ Nat.zero]]]", 6, 0},
		{
			lift(relation, "#9", "?7", "[any{1} "+typ+"]"),
			lift(form, "[^ x 0 Nat [#10 #0]]", "[^ x 0 Nat [^ x 0 Nat [^ x 0 True ?0]]]", "[any{1} [[Quot{0} Nat] "+form+"]]"),
			39, 0,
		},
		{"[[[[[Quot.sound{0} Nat] " + relation + "] #11] #10] True.intro]", "?0", 1, 0},
		{"[[[[[Quot.ind{0} Nat] " + relation + "] [^ q 0 " + typ + " True]] [^ a 0 Nat True.intro]] [any{1} " + typ + "]]", "?0", 2, 0},
	})
}

func TestCanonOfProjections(t *testing.T) {
	holdCanonCases(t, askCanon, canonEnv(), convContext(), []typeCase{
		{"[. Prod 0 #7]", "[. Prod 0 #7]", 1, 0},
		{"[. Prod 0 [pairs two]]", "[. Prod 0 [pairs [Nat.succ [Nat.succ Nat.zero]]]]", 5, 0},
		{"[. Prod 0 [[id{1} [[Prod{0,0} Nat] Nat]] #7]]", "[. Prod 0 #7]", 4, 0},
		{"[. Prod 1 [[[[Prod.mk{0,0} Nat] Nat] two] #11]]", "#11", 2, 0},
		// what is projected has its spine made canonical: it is no pair there
		{"[. Prod 0 [. Prod 1 [any{1} [[Prod{0,0} Nat] [[Prod{0,0} Nat] Nat]]]]]", "[. Prod 0 [. Prod 1 [any{1} [[Prod{0,0} Nat] [[Prod{0,0} Nat] Nat]]]]]", 11, 0},
		{"[. Sigma 1 [any{1} [[Sigma{0,1} Nat] [^ n 0 Nat [[Vec{1} Nat] #0]]]]]", "[. Sigma 1 [any{1} [[Sigma{0,1} Nat] [^ x 0 Nat [[Vec{1} Nat] #0]]]]]", 14, 0},
		// with arguments behind them; the type of the head is that of the head as it was
		{"[[. Prod 0 [any{1} [[Prod{0,0} [! n 0 Nat Nat]] Nat]]] two]", "[[. Prod 0 [any{1} [[Prod{0,0} [! x 0 Nat Nat]] Nat]]] [Nat.succ [Nat.succ Nat.zero]]]", 13, 0},
		{"[[. Prod 0 [any{1} FunPair]] two]", "[[. Prod 0 [any{1} [[Prod{0,0} [! x 0 Nat Nat]] Nat]]] [Nat.succ [Nat.succ Nat.zero]]]", 16, 0},
		{
			"[[. Box 0 [[. Box 0 [any{1} [Box{0} [! n 0 Nat [Box{0} Fun]]]]] two]] #11]",
			"[[. Box 0 [[. Box 0 [any{1} [Box{0} [! x 0 Nat [Box{0} [! x 0 Nat Nat]]]]]] [Nat.succ [Nat.succ Nat.zero]]]] #11]",
			19, 0,
		},
	})
}

func TestCanonType(t *testing.T) {
	holdCanonCases(t, askCanonType, canonEnv(), convContext(), []typeCase{
		{"*0", "*0", 1, 0},
		{"*max(v,u)", "*max(v,u)", 1, 0},
		// function types
		{"[! y 1 Nat Nat]", "[! x 0 Nat Nat]", 3, 0},
		{"[! n 0 Nat [[Vec{1} Nat] #0]]", "[! x 0 Nat [[Vec{1} Nat] #0]]", 6, 0},
		{"[! y 1 Set [! z 2 #0 [! x 0 #1 #1]]]", "[! x 0 *1 [! x 0 #0 [! x 0 #1 #1]]]", 8, 0},
		{"[! h 0 [#3 #11] [#4 #12]]", "[! x 0 [#3 #11] [#4 #12]]", 5, 0},
		// stuck, or of families
		{"Nat", "Nat", 1, 0},
		{"#0", "#0", 1, 0},
		{"set", "set", 1, 0},
		{"[#3 two]", "[#3 [Nat.succ [Nat.succ Nat.zero]]]", 5, 0},
		{"[fam two]", "[fam [Nat.succ [Nat.succ Nat.zero]]]", 6, 0},
		{"[pow #11]", "[[[[Nat.rec{2} [^ x 0 Nat *1]] Nat] [^ x 0 Nat [^ x 0 *1 [! x 0 Nat #1]]]] #11]", 23, 0},
		{"[[[Eq{1} Nat] two] #11]", "[[[Eq{1} Nat] [Nat.succ [Nat.succ Nat.zero]]] #11]", 8, 0},
		{"[[Prod{0,0} Fun] Nat]", "[[Prod{0,0} [! x 0 Nat Nat]] Nat]", 8, 0},
		{"[[Vec{1} Nat] [[by #11] #2]]", "[[Vec{1} Nat] [[by #11] ?0]]", 6, 0},
		{"[. Some 0 [any{2} Some]]", "[. Some 0 [any{2} Some]]", 3, 0},
		{"[. Sigma 0 [any{2} [[Sigma{1,0} *1] [^ X 0 *1 #0]]]]", "[. Sigma 0 [any{2} [[Sigma{1,0} *1] [^ x 0 *1 #0]]]]", 10, 0},
		// types by steps
		{"Set", "*1", 2, 0},
		{"Fun", "[! x 0 Nat Nat]", 4, 0},
		{"Unary", "[! x 0 Nat [! x 0 Nat Nat]]", 7, 0},
		{"[pow two]", "[! x 0 Nat [! x 0 Nat Nat]]", 14, 0},
		{"[[id{2} *1] Nat]", "Nat", 4, 0},
		{"[[^ x 0 Nat #0] Nat]", "Nat", 2, 0},
		{"[= X *1 Nat [! x 0 #0 #1]]", "[! x 0 Nat Nat]", 4, 0},
	})
}

// What is no type has its spine made canonical, whatever it is.
func TestCanonTypeOfWhatIsNone(t *testing.T) {
	holdCanonCases(t, askCanonType, canonEnv(), convContext(), []typeCase{
		{"two", "[Nat.succ [Nat.succ Nat.zero]]", 4, 0},
		{"#11", "#11", 1, 0},
		{"#7", "#7", 1, 0},
		{"#9", "#9", 1, 0},
		{"#2", "#2", 1, 0},
		{"[#9 two]", "[#9 [Nat.succ [Nat.succ Nat.zero]]]", 5, 0},
		{"Nat.succ", "Nat.succ", 1, 0},
		{"[Nat.succ two]", "[Nat.succ [Nat.succ [Nat.succ Nat.zero]]]", 5, 0},
		{"[. Prod 0 two]", "[. Prod 0 [Nat.succ [Nat.succ Nat.zero]]]", 4, 0},
		// a head stays as it is
		{"[^ x 2 Nat two]", "[^ x 2 Nat two]", 1, 0},
		{"[^ x 2 Set [Set Set]]", "[^ x 2 Set [Set Set]]", 1, 0},
		{"[^ x 0 Nat [?0 #0]]", "[^ x 0 Nat [?0 #0]]", 1, 0},
		{"[. Prod 0 [^ y 1 Nat two]]", "[. Prod 0 [^ y 1 Nat two]]", 1, 0},
		{"[. Prod 0 [! y 1 Nat Fun]]", "[. Prod 0 [! y 1 Nat Fun]]", 1, 0},
		{"?0", "?0", 1, 0},
		{"?5", "?5", 1, 0},
		{"[! x 0 ?0 ?1]", "[! x 0 ?0 ?1]", 3, 0},
		// with an argument its type is asked for
		{"[?0 two]", "", 1, impl.CodeHole},
		{"[*1 two]", "", 1, impl.CodeFun},
		{"[[! x 0 Nat Nat] two]", "", 1, impl.CodeFun},
		{"[[! x 0 ?0 Nat] two]", "", 1, impl.CodeHole},
		{"[[! x 0 statement two] two]", "", 4, impl.CodeSort},
		{"[#7 two]", "", 1, impl.CodeFun},
		{"[two two]", "", 4, impl.CodeFun},
		{"[[#9 two] two]", "", 5, impl.CodeFun},
		{"[! x 0 two [#0 #0]]", "", 7, impl.CodeFun},
		{"[[. Prod 0 two] two]", "", 4, impl.CodeProj},
		{"[[. Prod 1 #7] two]", "", 1, impl.CodeFun},
		{"[. Prod 0 [?0 two]]", "", 1, impl.CodeHole},
		{"[[. Prod 0 ?0] two]", "", 1, impl.CodeHole},
	})
}

func TestCanonWithCodes(t *testing.T) {
	holdCanonCases(t, askCanon, canonEnv(), convContext(), []typeCase{
		// the type comes first
		{"?0", "", 0, impl.CodeHole},
		{"[?0 two]", "", 0, impl.CodeHole},
		{"[= x Nat ?0 #0]", "", 0, impl.CodeHole},
		{"[^ x 0 Nat ?0]", "", 0, impl.CodeHole},
		{"[! x 0 ?0 Nat]", "", 0, impl.CodeHole},
		{"[two two]", "", 0, impl.CodeFun},
		{"[[#9 two] two]", "", 0, impl.CodeFun},
		{"[[slow two] two]", "", 4, impl.CodeFun},
		{"[! x 0 two Nat]", "", 0, impl.CodeSort},
		{"[! x 0 statement two]", "", 3, impl.CodeSort},
		{"[. Prod 0 two]", "", 0, impl.CodeProj},
		// then what it is
		{"[^ x 0 ?0 #0]", "", 3, impl.CodeHole},
		{"[any{0} ?0]", "", 1, impl.CodeHole},
		{"[any{0} two]", "", 2, impl.CodeSort},
		{"few", "", 1, impl.CodeSort},
		{"much", "", 1, impl.CodeFun},
		{"stuck", "", 1, impl.CodeProj},
		{"[any{0} [Nat two]]", "", 1, impl.CodeFun},
		{"[any{0} [two two]]", "", 2, impl.CodeFun},
		{"[any{0} [. Prod 0 two]]", "", 2, impl.CodeProj},
		{"[any{0} [! x 0 Nat two]]", "", 4, impl.CodeSort},
		{"[any{0} [! x 0 [?0 two] Nat]]", "", 2, impl.CodeHole},
		// the arguments of the type, and the fields
		{"[[[[Prod.mk{0,0} ?0] Nat] two] two]", "", 6, impl.CodeHole},
		{"[any{1} [[Prod{0,0} two] Nat]]", "", 10, impl.CodeSort},
		{"[any{1} [[Prod{0,0} [two two]] Nat]]", "", 6, impl.CodeFun},
		{"[any{1} [[Prod{0,0} Nat] [[! x 0 Nat Nat] two]]]", "", 5, impl.CodeFun},
		// and arguments
		{"[Nat.succ [?0 two]]", "", 2, impl.CodeHole},
		{"[Nat.succ [two two]]", "", 5, impl.CodeFun},
		{"[Nat.succ [[#9 two] two]]", "", 6, impl.CodeFun},
		{"[slow [two two]]", "", 13, impl.CodeFun},
		{"[any{0} [! x 0 two Nat]]", "", 15, impl.CodeSort},
		{"[any{0} [! x 0 ?0 Nat]]", "", 8, impl.CodeHole},
		// terms without a type that nobody asks for
		{"[Nat.succ ?0]", "[Nat.succ ?0]", 2, 0},
		{"[^ x 0 ?0 two]", "[^ x 0 ?0 [Nat.succ [Nat.succ Nat.zero]]]", 7, 0},
		{"[[[[Prod.mk{0,0} Nat] Nat] ?4] two]", "[[[[Prod.mk{0,0} Nat] Nat] ?4] [Nat.succ [Nat.succ Nat.zero]]]", 12, 0},
		{"odd", "[^ x 0 Nat [odd #0]]", 4, 0},
	})
}
