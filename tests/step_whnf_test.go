package tests

import (
	"testing"

	"loop.example/g00005/impl"
)

// omega makes steps for ever, and never grows.
const omega = "[[^ x 0 *0 [#0 #0]] [^ x 0 *0 [#0 #0]]]"

const (
	addStep = "[^ n 0 Nat [^ ih 0 Nat [Nat.succ #0]]]"
	addRec  = "[[[Nat.rec{1} [^ t 0 Nat Nat]] two] " + addStep + "]"
)

// whnfCase is a term with its Whnf, or normal form, and the work for it.
type whnfCase struct {
	in   string
	work int
	out  string
}

// holdFuels holds a function with every fuel up to more than it needs, and with
// the greatest one: promise 11.
func holdFuels(t *testing.T, c whnfCase, do func(x impl.Term, fuel int) (impl.Term, int, int)) {
	t.Helper()
	for fuel := -2; fuel <= c.work+3; fuel++ {
		got, work, code := do(read(c.in), fuel)
		switch {
		case fuel < 0:
			holdWork(t, c.in, got, work, code, "", 0, impl.CodeInput)
		case fuel < c.work:
			holdWork(t, c.in, got, work, code, "", fuel, impl.CodeFuel)
		default:
			holdWork(t, c.in, got, work, code, c.out, c.work, 0)
		}
	}
	got, work, code := do(read(c.in), impl.MaxFuel)
	holdWork(t, c.in, got, work, code, c.out, c.work, 0)
	got, work, code = do(read(c.in), impl.MaxFuel+1)
	holdWork(t, c.in, got, work, code, "", 0, impl.CodeInput)
}

func TestWhnfDeep(t *testing.T) {
	e := stepEnv()
	for _, c := range []whnfCase{
		{"#3", 0, "#3"},
		{"[^ x 0 four " + omega + "]", 0, "[^ x 0 four " + omega + "]"},
		{"[#0 four]", 0, "[#0 four]"},
		{"two", 1, "[Nat.succ [Nat.succ Nat.zero]]"},
		{"[[[^ x 0 Nat #0] [^ y 0 Nat [#0 four]]] #3]", 2, "[#3 four]"},
		{"[[add Nat.zero] Nat.zero]", 4, "Nat.zero"},
		// the definition, two for its functions, two, the constructor, and two for the minor
		{"[[add two] two]", 7, "[Nat.succ [" + addRec + " [Nat.succ Nat.zero]]]"},
		{"four", 8, "[Nat.succ [" + addRec + " [Nat.succ Nat.zero]]]"},
		// a major that makes all of these steps first, then the constructor, and the minor
		{"[[[[Nat.rec{1} #0] #1] [^ n 0 Nat [^ ih 0 Nat some]]] four]", 11, "some"},
		{"[[[[Nat.rec{1} #0] #1] #2] [[[[Nat.rec{1} #3] #4] #5] two]]", 2, "[[[[Nat.rec{1} #0] #1] #2] [[#5 [Nat.succ Nat.zero]] [[[[Nat.rec{1} #3] #4] #5] [Nat.succ Nat.zero]]]]"},
		{"[. Prod 0 [= x Nat two [[[[Prod.mk{0,0} Nat] Nat] [Nat.succ #0]] #4]]]", 2, "[Nat.succ two]"},
		{"[[. Prod 1 [[[[Prod.mk{0,0} Nat] Nat] two] [id{1} Nat]]] some]", 4, "some"},
		{"[. Prod 0 [. Prod 1 [#0 two]]]", 0, "[. Prod 0 [. Prod 1 [#0 two]]]"},
		{"[[[[[[Quot.lift{0,0} #0] #1] #2] [^ a 0 Nat [#0 #0]]] #4] [[id{1} Nat] [[[Quot.mk{0} #5] #6] #7]]]", 5, "[#7 #7]"},
		// a structure: the constructor, and where there is none its projections, and what these make
		{"[[[[[Prod.rec{1,0,0} Nat] Nat] #0] [^ a 0 Nat [^ b 0 Nat #1]]] [[[[Prod.mk{0,0} Nat] Nat] some] #4]]", 3, "some"},
		{"[[[[[Prod.rec{1,0,0} Nat] Nat] #0] [^ a 0 Nat [^ b 0 Nat #1]]] #4]", 3, "[. Prod 0 #4]"},
		{"[[[[[Prod.rec{1,0,0} Nat] Nat] #0] [^ a 0 Nat [^ b 0 Nat [#0 #1]]]] [[id{1} Nat] #4]]", 6, "[[. Prod 1 #4] [. Prod 0 #4]]"},
		{"[[[Unit.rec{1} #0] two] [[[Unit.rec{1} #0] #1] [[id{1} Unit] #3]]]", 6, "[Nat.succ [Nat.succ Nat.zero]]"},
		{"[[[Unit.rec{1} #0] #1] [[[[Nat.rec{1} #0] #1] #2] [. Box 0 [[id{1} Nat] #3]]]]", 4, "#1"},
		// the third step goes to the head again
		{"[[= x Nat [^ y 0 Nat [#0 #0]] #0] [^ z 0 Nat two]]", 4, "[Nat.succ [Nat.succ Nat.zero]]"},
	} {
		holdFuels(t, c, func(x impl.Term, fuel int) (impl.Term, int, int) { return impl.Whnf(e, x, true, fuel) })
		x, work, code := slowStepsIn(e).slowly(100, func(m *slowMeter) tree { return m.whnf(treeOf(read(c.in)), true) })
		holdWork(t, "the slow way: "+c.in, x.term(), work, code, c.out, c.work, 0)
		holdWhnf(t, e, read(c.out), true, 0, c.out, 0, 0)
	}
}

func TestWhnfUpToDefinitions(t *testing.T) {
	e := stepEnv()
	for _, c := range []whnfCase{
		{"#3", 0, "#3"},
		{"two", 0, "two"},
		{"[[add two] two]", 0, "[[add two] two]"},
		{"[[^ x 0 Nat [[add #0] #0]] two]", 1, "[[add two] two]"},
		{"[[^ x 0 Nat [[[[Nat.rec{1} #1] #2] #3] #0]] two]", 1, "[[[[Nat.rec{1} #0] #1] #2] two]"},
		{"[[[[[Nat.rec{1} #0] #1] #2] [[^ x 0 Nat #0] two]] #3]", 1, "[[[[[Nat.rec{1} #0] #1] #2] two] #3]"},
		{"[[[[Nat.rec{1} #0] two] #2] [= x Nat two Nat.zero]]", 2, "two"},
		{"[[. Prod 0 [[^ x 0 Nat #0] [[id{1} Nat] #0]]] two]", 1, "[[. Prod 0 [[id{1} Nat] #0]] two]"},
		{"[[[[[[Quot.lift{0,0} #0] #1] #2] #3] #4] [. Prod 0 [[^ x 0 Nat [#0 four]] id{1}]]]", 1, "[[[[[[Quot.lift{0,0} #0] #1] #2] #3] #4] [. Prod 0 [id{1} four]]]"},
		{"[[[Unit.rec{1} #0] two] [[id{1} Unit] #3]]", 0, "[[[Unit.rec{1} #0] two] [[id{1} Unit] #3]]"},
		{"[[[Unit.rec{1} #0] two] [[^ x 0 Unit #0] #3]]", 2, "two"},
		{"[[[[Nat.rec{1} #0] #1] [^ n 0 Nat [^ ih 0 Nat #1]]] [Nat.succ four]]", 3, "four"},
		{"[#0 [[^ x 0 Nat #0] two]]", 0, "[#0 [[^ x 0 Nat #0] two]]"},
	} {
		holdFuels(t, c, func(x impl.Term, fuel int) (impl.Term, int, int) { return impl.Whnf(e, x, false, fuel) })
		x, work, code := slowStepsIn(e).slowly(100, func(m *slowMeter) tree { return m.whnf(treeOf(read(c.in)), false) })
		holdWork(t, "the slow way: "+c.in, x.term(), work, code, c.out, c.work, 0)
	}
}

func TestBlocked(t *testing.T) {
	e := stepEnv()
	for text, want := range map[string]string{
		"two":                             "two",
		"[two four]":                      "two",
		"[[id{1} four] #0]":               "id",
		"sorts{1,q}":                      "sorts",
		"[[[[Nat.rec{1} #0] #1] #2] two]": "two",
		"[[[[[Nat.rec{1} four] #1] #2] [[add two] #3]] four]":                   "add",
		"[[[[Nat.rec{1} #0] #1] #2] [. Prod 0 [[[Unit.rec{1} #0] #1] four]]]":   "four",
		"[. Prod 0 [[id{1} Nat] #0]]":                                           "id",
		"[[[[[[Quot.lift{0,0} two] #1] #2] #3] #4] [[add two] four]]":           "add",
		"[[[[[[Quot.lift{0,0} two] #1] #2] #3] #4] [[[Quot.mk{0} #0] #1] two]]": "",
		"#0":                                "",
		"[#0 two]":                          "",
		"some":                              "",
		"easy":                              "",
		"[Nat.succ two]":                    "",
		"[[^ x 0 Nat #0] two]":              "",
		"[= x Nat two two]":                 "",
		"[^ x 0 two two]":                   "",
		"[[[[Nat.rec{1} two] two] two] #0]": "",
		"[[[[Nat.rec{1} two] two] two] [Nat.succ two]]": "",
		"[[False.rec{1} #0] two]":                       "",
		"[[[Unit.rec{1} #0] two] #0]":                   "",
		"[. Box 0 [[Box.mk{0} Nat] two]]":               "",
		"nothing":                                       "",
		"two{0}":                                        "",
		"[two nothing]":                                 "",
	} {
		x, code, _ := impl.ParseTerm([]byte(text))
		if got := impl.Blocked(e, x); code != 0 || got != want {
			t.Errorf("%s: code %d, blocked by %q", text, code, got)
		}
	}
	for _, x := range wrongTerms() {
		if got := impl.Blocked(e, x); got != "" {
			t.Errorf("a term that is not valid is blocked by %q", got)
		}
	}
}

// bigOmega goes round in two steps, through a body with its variable below so
// many Nat.succs.
func bigOmega(count int) impl.Term {
	twice := lam("y", 0, prop(), app(variable(1), variable(1)))
	f := lam("x", 0, prop(), app(twice, numeral(count, variable(0))))
	return app(f, f)
}

// numeral is so many Nat.succs around a term.
func numeral(count int, x impl.Term) impl.Term {
	var nodes []impl.Node
	for range count {
		nodes = append(nodes, impl.Node{K: impl.TermConst, S: "Nat.succ"})
	}
	nodes = append(nodes, copyTermNodes(x, count)...)
	for i := range count {
		nodes = append(nodes, impl.Node{K: impl.TermApp, Kids: []int{count - 1 - i, len(nodes) - 1}})
	}
	return impl.Term{Nodes: nodes}
}

// sized is a closed term of so many nodes.
func sized(nodes int) impl.Term {
	x := numeral((nodes-1)/2, constant("Nat.zero"))
	if nodes%2 == 0 {
		x = proj("Box", 0, x)
	}
	return x
}

func TestWhnfWithoutEnd(t *testing.T) {
	e := stepEnv()
	for _, text := range []string{
		omega,
		"[[[[Nat.rec{1} #0] #1] #2] " + omega + "]",
		"[. Prod 0 [" + omega + " two]]",
		"[[^ x 0 *0 [#0 #0]] [^ x 0 *0 [= y *0 [[id{1} *0] #0] [#0 #1]]]]",
		"[[[Unit.rec{1} #0] #1] " + omega + "]",
	} {
		for _, fuel := range []int{0, 1, 2, 3, 99, 5000, impl.MaxFuel - 1, impl.MaxFuel} {
			holdWhnf(t, e, read(text), true, fuel, "", fuel, impl.CodeFuel)
			holdNormal(t, e, read(text), fuel, "", fuel, impl.CodeFuel)
		}
	}
	for _, x := range []impl.Term{bigOmega(15), bigOmega(2000)} {
		holdWhnf(t, e, x, true, impl.MaxFuel, "", impl.MaxFuel, impl.CodeFuel)
		holdWhnf(t, e, x, false, impl.MaxFuel, "", impl.MaxFuel, impl.CodeFuel)
		holdNormal(t, e, x, impl.MaxFuel, "", impl.MaxFuel, impl.CodeFuel)
	}
	// It is without end only with definitions.
	text := "[[^ x 0 *0 [[id{1} #0] #0]] [^ x 0 *0 [[id{1} #0] #0]]]"
	holdWhnf(t, e, read(text), false, impl.MaxFuel, "[[id{1} [^ x 0 *0 [[id{1} #0] #0]]] [^ x 0 *0 [[id{1} #0] #0]]]", 1, 0)
	// Terms that grow come to the limit.
	text = "[[^ x 0 *0 [[#0 #0] #0]] [^ x 0 *0 [[#0 #0] #0]]]"
	x := treeOf(read(text))
	size, work := x.size(), 0
	for size <= impl.MaxNodes {
		size += 8
		work++
	}
	holdWhnf(t, e, read(text), true, impl.MaxFuel, "", work, impl.CodeSize)
	holdWhnf(t, e, read(text), true, work, "", work, impl.CodeSize)
	holdWhnf(t, e, read(text), true, work-1, "", work-1, impl.CodeFuel)
}

// Functions of many arguments, and many TermLets, are soon through.
func TestWhnfOfLongTerms(t *testing.T) {
	t.Parallel()
	const count = 2500
	e := stepEnv()
	body, want := constant("some"), constant("some")
	for i := range count {
		to := func(x impl.Term, n int) impl.Term {
			return impl.Term{Nodes: append(x.Nodes, impl.Node{K: impl.TermVar, N: n}, impl.Node{K: impl.TermApp, Kids: []int{len(x.Nodes) - 1, len(x.Nodes)}})}
		}
		body, want = to(body, count-1-i), to(want, i)
	}
	f := lams(count, func(depth int) impl.Term { return constant("Nat") }, body)
	var args []impl.Term
	for i := range count {
		args = append(args, variable(i))
	}
	x, _ := impl.Apply(f, args)
	holdWhnf(t, e, x, true, count, written(want), count, 0)
	holdWhnf(t, e, x, true, count-1, "", count-1, impl.CodeFuel)
	holdNormal(t, e, x, impl.MaxFuel, written(want), count, 0)

	lets := wrapLets(count, constant("Nat"), variable(7), body)
	got, work, code := impl.Whnf(e, lets, false, count)
	if code != 0 || work != count || len(got.Nodes) != 2*count+1 || treeOf(got).numbers()[7] != count {
		t.Errorf("many TermLets: work %d, code %d, %d nodes", work, code, len(got.Nodes))
	}
}
