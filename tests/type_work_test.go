package tests

import (
	"strings"
	"testing"

	"loop.example/g00005/impl"
)

// Types that make steps for ever take any fuel, but only where they are looked
// at.
func TestTypesWithoutEnd(t *testing.T) {
	e := typeEnv()
	ctx := contextOf(omega, "[#0 "+omega+"]")
	for _, fuel := range []int{0, 1, 2, 50, impl.MaxFuel - 1, impl.MaxFuel} {
		for _, text := range []string{"[ever two]", "[#1 two]", "[. Prod 0 ever]", "[. Prod 0 #1]", "[! x 0 ever Nat]", "[! x 0 Nat #2]", "[= x Nat ever [#0 two]]", "[[any{1} " + omega + "] two]"} {
			got, work, code := impl.TypeOf(e, ctx, read(text), fuel)
			holdWork(t, text, got, work, code, "", fuel, impl.CodeFuel)
			got, work, code = sortTerm(e, ctx, read(text), fuel)
			holdWork(t, text, got, work, code, "", fuel, impl.CodeFuel)
		}
		for _, text := range []string{"ever", "#1"} {
			got, work, code := sortTerm(e, ctx, read(text), fuel)
			holdWork(t, text, got, work, code, "", fuel, impl.CodeFuel)
		}
		for text, want := range map[string]string{
			"ever":                              omega,
			"#1":                                omega,
			"#0":                                "[#1 " + omega + "]",
			"[^ x 0 ever #0]":                   "[! x 0 ever ever]",
			"[Nat.succ ever]":                   "Nat",
			"[= x ever ever two]":               "Nat",
			"[any{1} " + omega + "]":            omega,
			"[^ x 0 " + omega + " [any{1} #0]]": "[! x 0 " + omega + " #0]",
		} {
			got, work, code := impl.TypeOf(e, ctx, read(text), fuel)
			holdWork(t, text, got, work, code, want, 0, 0)
		}
		got, work, code := sortTerm(e, ctx, read("#0"), fuel)
		holdWork(t, "#0", got, work, code, "", 0, impl.CodeSort)
	}
}

// many is a text so many times, each time in the next one's place.
func many(count int, text, last string) string {
	for range count {
		last = strings.Replace(text, "@", last, 1)
	}
	return last
}

// The work is that of each place, however often a part stands in a term.
func TestTypesOfTheSamePartManyTimes(t *testing.T) {
	holdTypesOf(t, typeEnv(), plainContext(), []typeCase{
		// each statement takes 3, the type of each function 1 or 4
		{many(10, "[! x 0 statement @]", "statement"), "*" + many(10, "imax(0,@)", "0"), 33, 0},
		{many(10, "[! x 0 #5 @]", "set"), "", 0, impl.CodeSort},
		{"[! x 0 [! x 0 set statement] [! x 0 set statement]]", "*imax(imax(1,0),imax(1,0))", 8, 0},
		{"[! x 0 [= y Nat slow [any{1} [[[Eq{1} Nat] [#0 two]] [#0 two]]]] Nat]", "", 0, impl.CodeSort},
		{"[! x 0 [[^ f 0 Nat [^ g 0 Nat set]] slow] set]", "", 0, impl.CodeSort},
		{"[[^ y 0 [slow two] [slow two]] [slow [slow two]]]", "Nat", 4, 0},
		{"[! x 0 [any{2} [. Prod 0 [any{2} [[Prod{1,1} *1] *1]]]] [any{2} [. Prod 0 [any{2} [[Prod{1,1} *1] *1]]]]]", "", 0, impl.CodeSort},
		{"[! x 0 [[. Sigma 1 #0] #3] [! x 0 [[. Sigma 1 #1] #4] [! x 0 [[. Sigma 1 #2] #5] *0]]]", "*imax(1,imax(1,imax(1,1)))", 3, 0},
		{"[^ x 0 Nat [! x 0 set [! y 0 [. Prod 1 pair] Nat]]]", "", 2, impl.CodeSort},
		// one step for the function, and one for the type of what it gives
		{"[! x 0 set [! y 0 [fam two] [! z 0 [fam two] [fam two]]]]", "*imax(1,imax(1,imax(1,1)))", 7, 0},
		{"[! x 0 set [! y 0 [= z Nat fam [#0 two]] [! z 0 [= z Nat fam [#0 two]] [fam two]]]]", "*imax(1,imax(1,imax(1,1)))", 7, 0},
		{"[^ f 0 Fam [! x 0 set [! y 0 [#1 two] [! y 0 [#2 two] [#3 two]]]]]", "[! f 0 Fam *imax(1,imax(1,imax(1,1)))]", 7, 0},
		{"[= x Nat statement [! y 0 #0 [! z 0 #1 #2]]]", "*imax(0,imax(0,0))", 9, 0},
	})
}

// A part that takes much is found once, but counted each time.
func TestTypesWithMuchWork(t *testing.T) {
	e := behind(typeEnv(),
		declared(impl.KindDef, "eight", "", "Nat", "[[add four] four]"),
		declared(impl.KindDef, "many", "", "Nat", "[[add eight] [[add eight] eight]]"),
		declared(impl.KindDef, "Long", "", "*2", "[[[[Nat.rec{3} [^ t 0 Nat *2]] *1] [^ n 0 Nat [^ ih 0 *2 #0]]] many]"),
		declared(impl.KindAxiom, "long", "", "Long", ""),
	)
	w := slowStepsIn(e)
	_, each, code := w.slowSort(nil, read("long"), impl.MaxFuel, false)
	if code != 0 || each < 150 {
		t.Fatalf("work %d, code %d", each, code)
	}
	const times = 19
	x := many(times, "[! x 0 long @]", "long")
	want := "*" + many(times, "imax(1,@)", "1")
	for _, fuel := range []int{20*each - 1, 20 * each, 20*each + 1, impl.MaxFuel} {
		got, work, code := impl.TypeOf(e, nil, read(x), fuel)
		if fuel < 20*each {
			holdWork(t, x, got, work, code, "", fuel, impl.CodeFuel)
		} else {
			holdWork(t, x, got, work, code, want, 20*each, 0)
		}
	}
	for part := range 20 {
		got, work, code := impl.TypeOf(e, nil, read(x), part*each+each/2)
		holdWork(t, x, got, work, code, "", part*each+each/2, impl.CodeFuel)
	}
	// one more comes to the limit of levels, with the work of all
	got, work, code := impl.TypeOf(e, nil, read(many(times+2, "[! x 0 long @]", "long")), impl.MaxFuel)
	holdWork(t, x, got, work, code, "", 22*each, impl.CodeSize)
	// of two that are not types, the first one ends it
	got, work, code = impl.TypeOf(e, nil, read("[! x 0 [! y 0 long [two ?0]] [! y 0 long ?0]]"), impl.MaxFuel)
	holdWork(t, x, got, work, code, "", each, impl.CodeFun)
}

// Long spines and telescopes, and TermLets within each other, are soon through.
func TestTypesOfLongTerms(t *testing.T) {
	t.Parallel()
	const count = 3000
	nat := constant("Nat")
	inner := spread(0, constant("c"))
	for i := range count {
		inner = impl.Term{Nodes: append(inner.Nodes, impl.Node{K: impl.TermVar, N: count - 1 - i}, impl.Node{K: impl.TermApp, Kids: []int{len(inner.Nodes) - 1, len(inner.Nodes)}})}
	}
	typ := telescopeOf(count, nat, inner)
	e := behind(typeEnv(), declared(impl.KindAxiom, "c", "", "Nat", ""), impl.Decl{Kind: impl.KindAxiom, Name: "wide", Type: typ})
	x := impl.Term{Nodes: []impl.Node{{K: impl.TermConst, S: "wide"}}}
	want := impl.Term{Nodes: []impl.Node{{K: impl.TermConst, S: "c"}}}
	for i := range count {
		arg := impl.Node{K: impl.TermVar, N: i % 6}
		x.Nodes = append(x.Nodes, arg, impl.Node{K: impl.TermApp, Kids: []int{len(x.Nodes) - 1, len(x.Nodes)}})
		want.Nodes = append(want.Nodes, arg, impl.Node{K: impl.TermApp, Kids: []int{len(want.Nodes) - 1, len(want.Nodes)}})
	}
	got, work, code := impl.TypeOf(e, plainContext(), x, 0)
	holdWork(t, "a long spine", got, work, code, written(want), 0, 0)

	lets := wrapLets(count, nat, variable(5), app(constant("any", zero()), inner))
	got, work, code = impl.TypeOf(e, plainContext(), lets, 0)
	if code != 0 || work != 0 || len(got.Nodes) != 2*count+1 || len(treeOf(got).numbers()) != 1 || treeOf(got).numbers()[5] != count {
		t.Errorf("many TermLets: work %d, code %d, %d nodes", work, code, len(got.Nodes))
	}

	deep := lams(9000, func(int) impl.Term { return nat }, variable(8999))
	got, work, code = impl.TypeOf(e, nil, deep, 0)
	if code != 0 || work != 0 || len(got.Nodes) != len(deep.Nodes) || got.Nodes[len(got.Nodes)-1].K != impl.TermPi {
		t.Errorf("many TermLams: work %d, code %d, %d nodes", work, code, len(got.Nodes))
	}
}

// telescopeOf is so many TermPis of one type around a term.
func telescopeOf(count int, typ, inner impl.Term) impl.Term {
	x := lams(count, func(int) impl.Term { return typ }, inner)
	for i := range x.Nodes {
		if x.Nodes[i].K == impl.TermLam {
			x.Nodes[i].K = impl.TermPi
		}
	}
	return x
}

// wrapLets is so many TermLets, each with the same type and value but for its
// variables, around a term.
func wrapLets(count int, typ, value, inner impl.Term) impl.Term {
	var nodes []impl.Node
	for i := range count {
		v := value.Nodes[0]
		v.N += i
		nodes = append(nodes, typ.Nodes[0], v)
	}
	nodes = append(nodes, copyTermNodes(inner, len(nodes))...)
	for i := range count {
		at := 2 * (count - 1 - i)
		nodes = append(nodes, impl.Node{K: impl.TermLet, S: "x", Kids: []int{at, at + 1, len(nodes) - 1}})
	}
	return impl.Term{Nodes: nodes}
}
