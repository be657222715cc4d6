package tests

import (
	"testing"

	"loop.example/g00005/impl"
)

func TestTypeOfLeaves(t *testing.T) {
	holdTypesOf(t, typeEnv(), plainContext(), []typeCase{
		{"#0", "[[Sigma{q,1} #5] [^ x 0 #5 [! y 0 #6 *1]]]", 0, 0},
		{"#1", "[[Prod{q,0} #5] Nat]", 0, 0},
		{"#2", "[#4 #3]", 0, 0},
		{"#3", "#5", 0, 0},
		{"#4", "[! x 1 #5 *0]", 0, 0},
		{"#5", "*q+1", 0, 0},
		{"*0", "*1", 0, 0},
		{"*u", "*u+1", 0, 0},
		{"*7", "*8", 0, 0},
		{"*u+2", "*u+3", 0, 0},
		{"*max(u,imax(2,v))", "*max(u,imax(2,v))+1", 0, 0},
		{"?0", "", 0, impl.CodeHole},
		{"?1000000", "", 0, impl.CodeHole},
	})
	holdTypesOf(t, typeEnv(), nil, []typeCase{
		{"*0", "*1", 0, 0},
		{"two", "Nat", 0, 0},
		{"[^ x 0 Nat #0]", "[! x 0 Nat Nat]", 0, 0},
		{"[^ x 0 *0 [^ y 0 #0 [^ z 0 #1 #1]]]", "[! x 0 *0 [! y 0 #0 [! z 0 #1 #2]]]", 0, 0},
	})
	holdTypesOf(t, impl.Env{}, contextOf("*u", "#0", "?4", "[#0 #1]"), []typeCase{
		{"#0", "[#1 #2]", 0, 0},
		{"#1", "?4", 0, 0},
		{"#2", "#3", 0, 0},
		{"#3", "*u", 0, 0},
		{"[^ x 0 #2 #0]", "[! x 0 #2 #3]", 0, 0},
		{"[^ x 0 #2 #1]", "[! x 0 #2 [#2 #3]]", 0, 0},
		{"[^ x 0 #2 #4]", "[! x 0 #2 *u]", 0, 0},
	})
}

func TestTypeOfConstants(t *testing.T) {
	holdTypesOf(t, typeEnv(), plainContext(), []typeCase{
		{"some", "Nat", 0, 0},
		{"any{max(a,b)}", "[! A 1 *max(a,b) #0]", 0, 0},
		{"two", "Nat", 0, 0},
		{"id{3}", "[! A 1 *3 [! a 0 #0 #1]]", 0, 0},
		{"sorts{b,a}", "[! x 0 *b *max(b,a)+1]", 0, 0},
		{"easy", "[[[Eq{1} Nat] four] four]", 0, 0},
		{"Nat", "*1", 0, 0},
		{"Prod{1,w}", "[! A 0 *2 [! B 0 *w+1 *max(1,w)+1]]", 0, 0},
		{"Nat.succ", "[! n 0 Nat Nat]", 0, 0},
		{"Box.mk{v}", "[! A 0 *v+1 [! a 0 #0 [Box{v} #1]]]", 0, 0},
		{"Unit.rec{w}", "[! C 0 [! t 0 Unit *w] [! star 0 [#0 Unit.star] [! t 0 Unit [#2 #0]]]]", 0, 0},
		{"True.rec", "[! C 0 [! t 0 True *0] [! intro 0 [#0 True.intro] [! t 0 True [#2 #0]]]]", 0, 0},
		{"Quot{w}", "[! A 0 *w+1 [! r 0 [! a 0 #0 [! b 0 #1 *0]] *w+1]]", 0, 0},
		{"Quot.mk{0}", "[! A 0 *1 [! r 0 [! a 0 #0 [! b 0 #1 *0]] [! a 0 #1 [[Quot{0} #2] #1]]]]", 0, 0},
		{"Quot.lift{v,u}", "[! A 0 *v+1 [! r 0 [! a 0 #0 [! b 0 #1 *0]] [! B 0 *u [! f 0 [! a 0 #2 #1]" +
			" [! h 0 [! a 0 #3 [! b 0 #4 [! p 0 [[#4 #1] #0] [[[Eq{u} #4] [#3 #2]] [#3 #1]]]]] [! q 0 [[Quot{v} #4] #3] #3]]]]]]", 0, 0},
		{"Quot.ind{0}", "[! A 0 *1 [! r 0 [! a 0 #0 [! b 0 #1 *0]] [! B 0 [! q 0 [[Quot{0} #1] #0] *0]" +
			" [! h 0 [! a 0 #2 [#1 [[[Quot.mk{0} #3] #2] #0]]] [! q 0 [[Quot{0} #3] #2] [#2 #0]]]]]]", 0, 0},
		{"Quot.sound{1}", "[! A 0 *2 [! r 0 [! a 0 #0 [! b 0 #1 *0]] [! a 0 #1 [! b 0 #2 [! p 0 [[#2 #1] #0]" +
			" [[[Eq{2} [[Quot{1} #4] #3]] [[[Quot.mk{1} #4] #3] #2]] [[[Quot.mk{1} #4] #3] #1]]]]]]]", 0, 0},
		{"ever", omega, 0, 0},
		{"slow", "[[id{2} *1] Fun]", 0, 0},
	})
	e := typeEnv()
	for name, info := range slowTable(e) {
		if len(info.Params) <= impl.MaxParams {
			got, work, code := impl.TypeOf(e, nil, constant(name, params(info.Params)...), 0)
			holdWork(t, name, got, work, code, written(info.Type), 0, 0)
		}
	}
}

func TestTypeOfApplied(t *testing.T) {
	holdTypesOf(t, typeEnv(), plainContext(), []typeCase{
		// the argument is not looked at
		{"[Nat.succ two]", "Nat", 0, 0},
		{"[Nat.succ Nat]", "Nat", 0, 0},
		{"[Nat.succ ?3]", "Nat", 0, 0},
		{"[Nat.succ [two two]]", "Nat", 0, 0},
		{"[#4 #3]", "*0", 0, 0},
		{"[id{1} Nat]", "[! a 0 Nat Nat]", 0, 0},
		{"[id{1} #5]", "[! a 0 #5 #6]", 0, 0},
		{"[[id{1} #5] #3]", "#5", 0, 0},
		{"[[id{1} [! x 0 #5 #6]] #3]", "[! x 0 #5 #6]", 0, 0},
		{"[[Eq.refl{1} #5] #3]", "[[[Eq{1} #5] #3] #3]", 0, 0},
		{"[[^ x 2 Nat [^ y 0 #6 #1]] two]", "[! y 0 #5 Nat]", 0, 0},
		{"[[^ x 2 Nat #0] two]", "Nat", 0, 0},
		{"[[Vec.cons{1} Nat] two]", "[! a 0 Nat [! v 0 [[Vec{1} Nat] two] [[Vec{1} Nat] [Nat.succ two]]]]", 0, 0},
		{"[[[id{1} Fun] fun] two]", "Nat", 1, 0},
		// types that become a TermPi
		{"[fun two]", "Nat", 1, 0},
		{"[slow two]", "Nat", 4, 0},
		{"[more two]", "Fun", 0, 0},
		{"[[more two] two]", "Nat", 1, 0},
		{"[nary two]", "[pow two]", 0, 0},
		{"[[nary Nat.zero] some]", "", 2, impl.CodeFun},
		{"[[nary [Nat.succ Nat.zero]] some]", "[[[[Nat.rec{2} [^ t 0 Nat *1]] Nat] [^ n 0 Nat [^ ih 0 *1 [! x 0 Nat #1]]]] Nat.zero]", 4, 0},
		{"[[[nary two] some] ?0]", "[[[[Nat.rec{2} [^ t 0 Nat *1]] Nat] [^ n 0 Nat [^ ih 0 *1 [! x 0 Nat #1]]]] Nat.zero]", 8, 0},
		{"[[[[nary two] some] some] some]", "", 9, impl.CodeFun},
		// what is put makes the type a TermPi, or something that becomes one
		{"[[any{1} [! x 0 Nat #6]] two]", "#5", 0, 0},
		{"[[any{1} Fun] two]", "Nat", 1, 0},
		{"[[[any{1} [! x 0 #5 Fun]] #3] ?1]", "Nat", 1, 0},
		{"[[[id{1} [! x 0 #5 #6]] #3] #3]", "#5", 0, 0},
		// no functions
		{"[two two]", "", 0, impl.CodeFun},
		{"[some two]", "", 0, impl.CodeFun},
		{"[#3 two]", "", 0, impl.CodeFun},
		{"[*0 two]", "", 0, impl.CodeFun},
		{"[[! x 0 Nat Nat] two]", "", 0, impl.CodeFun},
		{"[[Nat.succ two] two]", "", 0, impl.CodeFun},
		{"[[fun two] two]", "", 1, impl.CodeFun},
		{"[set two]", "", 1, impl.CodeFun},
		{"[[two two] ?0]", "", 0, impl.CodeFun},
		{"[?0 two]", "", 0, impl.CodeHole},
		{"[[?0 two] Nat]", "", 0, impl.CodeHole},
		{"[[= x Nat ?0 #0] two]", "", 0, impl.CodeHole},
	})
}

func TestTypeOfBinders(t *testing.T) {
	holdTypesOf(t, typeEnv(), plainContext(), []typeCase{
		{"[^ x 0 Nat two]", "[! x 0 Nat Nat]", 0, 0},
		{"[^ name 2 #5 #0]", "[! name 2 #5 #6]", 0, 0},
		{"[^ name 1 #5 #4]", "[! name 1 #5 #6]", 0, 0},
		{"[^ x 0 two [^ y 1 ?0 #1]]", "[! x 0 two [! y 1 ?0 two]]", 0, 0},
		{"[^ x 0 [Nat ?7] #0]", "[! x 0 [Nat ?7] [Nat ?7]]", 0, 0},
		{"[^ x 0 #5 [#5 #0]]", "[! x 0 #5 *0]", 0, 0},
		{"[^ x 0 Nat [fun #0]]", "[! x 0 Nat Nat]", 1, 0},
		{"[^ x 0 Nat [^ y 0 Nat [[more #0] [fun #1]]]]", "[! x 0 Nat [! y 0 Nat Nat]]", 1, 0},
		{"[^ x 0 Nat ?0]", "", 0, impl.CodeHole},
		{"[^ x 0 Nat [two two]]", "", 0, impl.CodeFun},
		{"[! x 0 Nat Nat]", "*imax(1,1)", 0, 0},
		{"[! x 0 #5 #6]", "*imax(q+1,q+1)", 0, 0},
		{"[! x 0 #5 [#5 #0]]", "*imax(q+1,0)", 0, 0},
		{"[! A 0 *u #0]", "*imax(u+1,u)", 0, 0},
		{"[! A 0 *u [! a 0 #0 #1]]", "*imax(u+1,imax(u,u))", 0, 0},
		{"[! x 0 [[[Eq{1} Nat] two] two] *3]", "*imax(0,4)", 0, 0},
		{"[! x 0 set Nat]", "*imax(1,1)", 1, 0},
		{"[! x 0 Nat set]", "*imax(1,1)", 1, 0},
		{"[! x 0 set [! y 0 set statement]]", "*imax(1,imax(1,0))", 5, 0},
		{"[! x 0 two Nat]", "", 0, impl.CodeSort},
		{"[! x 0 Nat two]", "", 0, impl.CodeSort},
		{"[! x 0 Nat #0]", "", 0, impl.CodeSort},
		{"[! x 0 set [two two]]", "", 1, impl.CodeFun},
		{"[! x 0 ?0 two]", "", 0, impl.CodeHole},
		{"[! x 0 two ?0]", "", 0, impl.CodeSort},
		{"[! x 0 Nat ?0]", "", 0, impl.CodeHole},
		{"[= x Nat two #0]", "Nat", 0, 0},
		{"[= x Nat two [any{2} [[Vec{1} Nat] #0]]]", "[[Vec{1} Nat] two]", 0, 0},
		{"[= x Nat two [^ y 0 [[Vec{1} Nat] #0] #1]]", "[! y 0 [[Vec{1} Nat] two] Nat]", 0, 0},
		{"[= x Nat #3 [^ y 0 #6 [[Eq.refl{1} #7] #1]]]", "[! y 0 #5 [[[Eq{1} #6] #4] #4]]", 0, 0},
		{"[= x ?0 ?1 two]", "Nat", 0, 0},
		{"[= x ?0 [two two] two]", "Nat", 0, 0},
		{"[= x Nat fun [#0 two]]", "Nat", 1, 0},
		{"[= x Nat ?1 #0]", "", 0, impl.CodeHole},
		{"[= x Nat [two two] #0]", "", 0, impl.CodeFun},
		// one in the other, and what is put is one itself
		{"[= x Nat #3 [= y Nat [[Eq.refl{1} #6] #0] [= z Nat #1 [[Prod.mk{0,0} #8] #2]]]]", "[! a 0 #5 [! b 0 #4 [[Prod{0,0} #7] #5]]]", 0, 0},
		{"[= x Nat #3 [= y Nat [[Eq.refl{1} #6] #0] [= z Nat #1 [#1 #0]]]]", "", 0, impl.CodeFun},
		{"[= x Nat #3 [= y Nat [[Eq.refl{1} #6] #0] #0]]", "[[[Eq{1} #5] #3] #3]", 0, 0},
		{"[= x Nat [= y Nat #3 [^ z 0 #6 #1]] [#0 #4]]", "#5", 0, 0},
		{"[= x Nat [= y Nat #3 #0] #0]", "#5", 0, 0},
		{"[= f Nat [^ x 0 #5 #0] [#0 #4]]", "#5", 0, 0},
		{"[[= f Nat fun #0] two]", "Nat", 1, 0},
	})
}

func TestTypeOfProjections(t *testing.T) {
	holdTypesOf(t, typeEnv(), plainContext(), []typeCase{
		{"[. Prod 0 #1]", "#5", 0, 0},
		{"[. Prod 1 #1]", "Nat", 0, 0},
		{"[. Sigma 0 #0]", "#5", 0, 0},
		{"[. Sigma 1 #0]", "[[^ x 0 #5 [! y 0 #6 *1]] [. Sigma 0 #0]]", 0, 0},
		{"[[. Sigma 1 #0] #3]", "*1", 1, 0},
		{"[^ x 0 Nat [. Sigma 1 #1]]", "[! x 0 Nat [[^ x 0 #6 [! y 0 #7 *1]] [. Sigma 0 #1]]]", 0, 0},
		{"[. Two 0 [any{1} Two]]", "Nat", 0, 0},
		{"[. Two 1 [any{1} Two]]", "[[[Eq{1} Nat] [. Two 0 [any{1} Two]]] two]", 0, 0},
		{"[. Prod 0 pair]", "Nat", 1, 0},
		{"[. Prod 1 pair]", "Unit", 1, 0},
		{"[. Prod 1 [[id{1} [[id{2} *1] Pair]] pair]]", "Unit", 4, 0},
		{"[. Box 0 [[Box.mk{3} *2] *1]]", "*2", 0, 0},
		{"[. Prod 0 [. Prod 1 [any{1} [[Prod{0,0} Nat] [[Prod{0,0} #5] Nat]]]]]", "#5", 0, 0},
		// the term itself makes steps, but only its type is asked for
		{"[. Prod 0 [[[[Prod.mk{0,0} #5] Nat] #3] ?0]]", "#5", 0, 0},
		{"[. Prod 0 [= x Nat Nat [any{1} [[Prod{0,0} #0] #6]]]]", "Nat", 0, 0},
		// another structure, too few and too many arguments, and no structure
		{"[. Box 0 #1]", "", 0, impl.CodeProj},
		{"[. Prod 0 [any{1} [Box{0} Nat]]]", "", 0, impl.CodeProj},
		{"[. Sigma 0 #1]", "", 0, impl.CodeProj},
		{"[. Prod 0 few]", "", 0, impl.CodeProj},
		{"[. Prod 0 much]", "", 0, impl.CodeProj},
		{"[. Prod 0 two]", "", 0, impl.CodeProj},
		{"[. Prod 0 some]", "", 0, impl.CodeProj},
		{"[. Prod 0 #3]", "", 0, impl.CodeProj},
		{"[. Prod 0 #5]", "", 0, impl.CodeProj},
		{"[. Prod 0 odd]", "", 0, impl.CodeProj},
		{"[. Prod 0 fun]", "", 1, impl.CodeProj},
		{"[. Two 0 stuck]", "", 0, impl.CodeProj},
		{"[. Two 0 Two]", "", 0, impl.CodeProj},
		{"[. Prod 0 Prod{0,0}]", "", 0, impl.CodeProj},
		{"[. Prod 0 ?0]", "", 0, impl.CodeHole},
		{"[. Prod 0 [two ?0]]", "", 0, impl.CodeFun},
	})
	// a hole as a type is no function, no type and no structure
	holdTypesOf(t, typeEnv(), contextOf("?3"), []typeCase{
		{"[#0 two]", "", 0, impl.CodeFun},
		{"[! x 0 #0 Nat]", "", 0, impl.CodeSort},
		{"[. Prod 0 #0]", "", 0, impl.CodeProj},
		{"[[any{1} ?5] two]", "", 0, impl.CodeFun},
		{"[. Prod 0 [any{1} ?5]]", "", 0, impl.CodeProj},
		{"[. Prod 0 [any{1} [[Prod{0,0} ?6] ?5]]]", "?6", 0, 0},
	})
}

func TestSortOf(t *testing.T) {
	holdSortsOf(t, typeEnv(), plainContext(), []typeCase{
		{"*0", "*1", 0, 0},
		{"*max(u,v)", "*max(u,v)+1", 0, 0},
		{"Nat", "*1", 0, 0},
		{"#5", "*q+1", 0, 0},
		{"[#4 #3]", "*0", 0, 0},
		{"[[[Eq{u} Nat] two] two]", "*0", 0, 0},
		{"[! x 0 #5 [#5 #0]]", "*imax(q+1,0)", 0, 0},
		{"[[Prod{u,w} Nat] two]", "*max(u,w)+1", 0, 0},
		{"[[Sigma{q,1} #5] [^ x 0 #5 [! y 0 #6 *1]]]", "*max(q,1)+1", 0, 0},
		{"[^ A 0 *u #0]", "", 0, impl.CodeSort},
		{"[[^ A 0 *u #0] Nat]", "*u", 0, 0},
		{"[any{u+1} *u]", "*u", 0, 0},
		{"[[. Sigma 1 #0] #3]", "*1", 1, 0},
		{"set", "*1", 1, 0},
		{"Set", "*2", 0, 0},
		{"statement", "*0", 3, 0},
		{"[pow two]", "*1", 0, 0},
		{"[= x Nat two set]", "*1", 1, 0},
		{"prf", "", 3, impl.CodeSort},
		{"two", "", 0, impl.CodeSort},
		{"some", "", 0, impl.CodeSort},
		{"#3", "", 0, impl.CodeSort},
		{"#2", "", 0, impl.CodeSort},
		{"#0", "", 0, impl.CodeSort},
		{"fun", "", 1, impl.CodeSort},
		{"Nat.succ", "", 0, impl.CodeSort},
		{"[^ x 0 Nat Nat]", "", 0, impl.CodeSort},
		{"[two two]", "", 0, impl.CodeFun},
		{"[. Prod 0 two]", "", 0, impl.CodeProj},
		{"?4", "", 0, impl.CodeHole},
		{"[! x 0 two Nat]", "", 0, impl.CodeSort},
		{"[! x 0 Nat fun]", "", 1, impl.CodeSort},
	})
	holdSortsOf(t, impl.Env{}, nil, []typeCase{{"*u", "*u+1", 0, 0}, {"[! x 0 *u #0]", "*imax(u+1,u)", 0, 0}})
}
