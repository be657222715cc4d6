package tests

import (
	"slices"
	"strconv"
	"strings"
	"testing"
	"time"

	"loop.example/g00005/impl"
)

func TestRecursorParams(t *testing.T) {
	for _, c := range []struct {
		d    impl.Decl
		want string
	}{
		{family("F", "", 0, "*0"), "v"},
		{family("F", "", 0, "*0", "c", "F"), ""},
		{family("F", "", 0, "*1"), "v"},
		{family("F", "", 0, "*1", "c", "F"), "v"},
		{family("F", "u", 0, "*0"), "v u"},
		{family("F", "u", 0, "*imax(u,0)", "c", "F{u}"), "u"},
		{family("F", "v", 0, "*0", "c", "F{v}"), "v"},
		{family("F", "v", 0, "*0"), "v1 v"},
		{family("F", "v", 0, "*v+1", "c", "F{v}"), "v1 v"},
		{family("F", "u v", 0, "*1"), "v1 u v"},
		{family("F", "v1 v", 0, "*1"), "v2 v1 v"},
		{family("F", "v v1", 0, "*1"), "v2 v v1"},
		{family("F", "v1", 0, "*1"), "v v1"},
		{family("F", "v2 v", 0, "*1"), "v1 v2 v"},
		{family("F", "v v1 v2 v3 v4 v5", 0, "*1", "c", "F{v,v1,v2,v3,v4,v5}"), "v6 v v1 v2 v3 v4 v5"},
		{family("F", "v v1 v3", 0, "*1"), "v2 v v1 v3"},
		{family("F", "V v0 v01", 0, "*1"), "v V v0 v01"},
		{family("F", "v v0 v01", 0, "*1"), "v1 v v0 v01"},
		{family("F", "u", 0, "*u"), ""},
		{family("F", "u", 0, "*1", "c", "F{0}"), ""},
		{axiom(), ""}, {definition(), ""}, {theorem(), ""}, {quotients(), ""}, {impl.Decl{}, ""},
	} {
		if got := impl.RecursorParams(c.d); strings.Join(got, " ") != c.want {
			t.Errorf("%v: %v, not %s", c.d.Params, got, c.want)
		}
	}
}

func TestRecursorTypesByHand(t *testing.T) {
	for _, c := range []struct {
		d    impl.Decl
		want string
	}{
		{family("Empty", "", 0, "*1"), "[! C 0 [! t 0 Empty *v] [! t 0 Empty [#1 #0]]]"},
		{family("False", "", 0, "*0"), "[! C 0 [! t 0 False *v] [! t 0 False [#1 #0]]]"},
		{family("True", "", 0, "*0", "True.intro", "True"), "[! C 0 [! t 0 True *0] [! intro 0 [#0 True.intro] [! t 0 True [#2 #0]]]]"},
		{natFamily(), "[! C 0 [! t 0 Nat *v] [! zero 0 [#0 Nat.zero] [! succ 0 [! n 0 Nat [! ih 0 [#2 #0] [#3 [Nat.succ #1]]]] [! t 0 Nat [#3 #0]]]]]"},
		// A parameter; the binders that are made have M 0, whatever those of F
		// have, and the names of Type, not those of a constructor.
		{listFamily(), "[! A 0 *u+1 [! C 0 [! t 0 [List{u} #0] *v] [! nil 0 [#0 [List.nil{u} #1]] " +
			"[! cons 0 [! head 0 #2 [! tail 0 [List{u} #3] [! ih 0 [#3 #0] [#4 [[[List.cons{u} #5] #2] #1]]]]] [! t 0 [List{u} #3] [#3 #0]]]]]]"},
		// An index.
		{vecFamily(), "[! A 0 *u [! C 0 [! n 0 Nat [! t 0 [[Vec{u} #1] #0] *v]] [! nil 0 [[#0 Nat.zero] [Vec.nil{u} #1]] " +
			"[! cons 0 [! m 0 Nat [! a 0 #3 [! v 0 [[Vec{u} #4] #1] [! ih 0 [[#4 #2] #0] [[#5 [Nat.succ #3]] [[[[Vec.cons{u} #6] #3] #2] #1]]]]]] " +
			"[! n 0 Nat [! t 0 [[Vec{u} #4] #0] [[#4 #1] #0]]]]]]]"},
		// A field under two functions, in Prop; what stands within its type
		// keeps its M, the hypothesis has M 0 there.
		{accFamily(), "[! A 0 *u [! r 0 [! x 0 #0 [! y 0 #1 *0]] [! C 0 [! x 0 #1 [! t 0 [[[Acc{u} #2] #1] #0] *0]] " +
			"[! intro 0 [! x 0 #2 [! h 0 [! y 1 #3 [! p 2 [[#3 #0] #1] [[[Acc{u} #5] #4] #1]]] [! ih 0 [! y 0 #4 [! p 0 [[#4 #0] #2] [[#4 #1] [[#2 #1] #0]]]] " +
			"[[#3 #2] [[[[Acc.intro{u} #5] #4] #2] #1]]]]] [! x 0 #3 [! t 0 [[[Acc{u} #4] #3] #0] [[#3 #1] #0]]]]]]]"},
		{prodFamily(), "[! A 0 *u+1 [! B 0 *v+1 [! C 0 [! t 0 [[Prod{u,v} #1] #0] *v1] " +
			"[! mk 0 [! a 0 #2 [! b 0 #2 [#2 [[[[Prod.mk{u,v} #4] #3] #1] #0]]]] [! t 0 [[Prod{u,v} #3] #2] [#2 #0]]]]]]"},
		// Two indices, the second of which hangs on the first and on the
		// parameter.
		{family("F", "", 1, "[! A 1 *1 [! n 2 Nat [! r 1 [[R #1] #0] *0]]]"),
			"[! A 0 *1 [! C 0 [! n 0 Nat [! r 0 [[R #1] #0] [! t 0 [[[F #2] #1] #0] *v]]] [! n 0 Nat [! r 0 [[R #2] #0] [! t 0 [[[F #3] #1] #0] [[[#3 #2] #1] #0]]]]]]"},
		// Parameters that hang on each other.
		{family("F", "u", 4, "[! A 1 *u [! B 1 [! x 0 #0 *u] [! a 0 #1 [! b 0 [#1 #0] *0]]]]"),
			"[! A 0 *u [! B 0 [! x 0 #0 *u] [! a 0 #1 [! b 0 [#1 #0] [! C 0 [! t 0 [[[[F{u} #3] #2] #1] #0] *v] [! t 0 [[[[F{u} #4] #3] #2] #1] [#1 #0]]]]]]]"},
		// Fields of F in front of others and behind them: hypotheses stand
		// behind all fields, in order, and later fields' types skip nothing.
		{family("F", "", 0, "*1", "a.b.mk'", "[! x 1 F [! n 2 Nat [! f 1 [! k 2 [G #0] F] [! e 0 [[E #1] #2] F]]]]"),
			"[! C 0 [! t 0 F *v] [! mk' 0 [! x 0 F [! n 0 Nat [! f 0 [! k 2 [G #0] F] [! e 0 [[E #1] #2] " +
				"[! ih 0 [#4 #3] [! ih 0 [! k 0 [G #3] [#6 [#3 #0]]] [#6 [[[[a.b.mk' #5] #4] #3] #2]]]]]]]] [! t 0 F [#2 #0]]]]"},
		// Names of binders that are those of the recursor, and binders within
		// types.
		{family("F", "", 1, "[! C 0 *1 [! t 0 [^ x 1 #0 [! y 2 #0 #2]] *1]]", "ih", "[! C 0 *1 [! t 0 [[F #0] [= w Nat Nat.zero #1]] [[F #1] [. P 2 #0]]]]"),
			"[! C 0 *1 [! C 0 [! t 0 [^ x 1 #0 [! y 2 #0 #2]] [! t 0 [[F #1] #0] *v]] " +
				"[! ih 0 [! t 0 [[F #1] [= w Nat Nat.zero #2]] [! ih 0 [[#1 [= w Nat Nat.zero #3]] #0] [[#2 [. P 2 #1]] [[ih #3] #1]]]] " +
				"[! t 0 [^ x 1 #2 [! y 2 #0 #4]] [! t 0 [[F #3] #0] [[#3 #1] #0]]]]]]"},
		// As many parameters as there may be: the recursor has one more.
		{family("F", "a b c d e f", 0, "*1", "k", "F{a,b,c,d,e,f}"), "[! C 0 [! t 0 F{a,b,c,d,e,f} *v] [! k 0 [#0 k{a,b,c,d,e,f}] [! t 0 F{a,b,c,d,e,f} [#2 #0]]]]"},
	} {
		holdForms(t, []formCase{{c.d.Name, c.d, 0, 0}})
		holdRecursor(t, c.d.Name, c.d, c.want)
		if slow := slowRecursor(c.d).text(); slow != c.want {
			t.Errorf("%s: by the slow way\n%s, not\n%s", c.d.Name, slow, c.want)
		}
	}
}

func TestRecursorTypeOfNone(t *testing.T) {
	for _, d := range []impl.Decl{
		axiom(), definition(), theorem(), quotients(), {},
		family("F", "u", 0, "*u"),
		family("F", "", 0, "*1", "c", "Nat"),
		family("F", "", 0, "*1", "c", "[! x 0 [List F] F]"),
		family("F", "", 0, "*v"),
	} {
		if typ, code := impl.RecursorType(d); code != impl.CodeInput || len(typ.Nodes) != 0 {
			t.Errorf("%s: code %d with %d nodes", d.Name, code, len(typ.Nodes))
		}
	}
}

// greatFamily has one constructor with one field of so many nodes.
func greatFamily(nodes int) impl.Decl {
	d := family("F", "", 0, "*1", "c", "[! x 0 Nat F]")
	d.Ctors[0].Type = pi("x", 0, projs(nodes-1, constant("c")), constant("F"))
	return d
}

func holdSize(t *testing.T, what string, d impl.Decl, nodes int) {
	t.Helper()
	holdForm(t, what, d, 0, 0)
	typ, code := impl.RecursorType(d)
	if nodes <= impl.MaxNodes && (code != 0 || len(typ.Nodes) != nodes || !impl.Closed(typ, 0)) {
		t.Errorf("%s: code %d with %d nodes, not %d", what, code, len(typ.Nodes), nodes)
	}
	if nodes > impl.MaxNodes && (code != impl.CodeSize || len(typ.Nodes) != 0) {
		t.Errorf("%s: code %d with %d nodes", what, code, len(typ.Nodes))
	}
}

func TestRecursorTypeSize(t *testing.T) {
	rest := len(slowRecursor(greatFamily(1)).term().Nodes) - 1
	for _, nodes := range []int{1, 100, impl.MaxNodes - rest - 1, impl.MaxNodes - rest, impl.MaxNodes - rest + 1, impl.MaxNodes - 2} {
		holdSize(t, strconv.Itoa(nodes)+" nodes", greatFamily(nodes), nodes+rest)
	}
	// An index stands there three times: in the motive, ahead of the major, and
	// in the family's type.
	index := family("F", "", 0, "[! x 0 Nat *1]")
	index.Type = pi("x", 0, projs(1, constant("c")), universe(succ(zero(), 1)))
	rest = len(slowRecursor(index).term().Nodes) - 2*2
	for _, nodes := range []int{(impl.MaxNodes - rest) / 2, (impl.MaxNodes-rest)/2 + 1} {
		index.Type = pi("x", 0, projs(nodes-1, constant("c")), universe(succ(zero(), 1)))
		holdSize(t, "an index of "+strconv.Itoa(nodes), index, 2*nodes+rest)
	}
	// Each is small, but all of them are not.
	many := family("F", "", 0, "*1")
	for i := range impl.MaxCtors {
		many.Ctors = append(many.Ctors, impl.Ctor{Name: "c" + strconv.Itoa(i), Type: greatFamily(impl.MaxNodes - 2).Ctors[0].Type})
	}
	begin := time.Now()
	holdSize(t, "many constructors", many, impl.MaxNodes+1)
	if spent := time.Since(begin); spent > 20*time.Second {
		t.Errorf("many constructors: %v", spent)
	}
}

// fieldsOfF is a constructor's type with so many fields of the family, each
// under a function or not.
func fieldsOfF(count, under int) impl.Term {
	var nodes []impl.Node
	var fields []int
	for range count {
		field := constant("F")
		for range under {
			field = pi("y", 0, constant("A"), field)
		}
		nodes = append(nodes, copyTermNodes(field, len(nodes))...)
		fields = append(fields, len(nodes)-1)
	}
	nodes = append(nodes, impl.Node{K: impl.TermConst, S: "F"})
	for _, field := range slices.Backward(fields) {
		nodes = append(nodes, impl.Node{K: impl.TermPi, S: "x", Kids: []int{field, len(nodes) - 1}})
	}
	return impl.Term{Nodes: nodes}
}

// Many fields: each hypothesis has to find its own field.
func TestRecursorTypeOfManyFields(t *testing.T) {
	for _, under := range []int{0, 1, 3} {
		d := family("F", "", 0, "*1")
		d.Ctors = []impl.Ctor{{Name: "c", Type: fieldsOfF(60, under)}}
		holdFormed(t, "60 fields", d)
		begin := time.Now()
		d.Ctors[0].Type = fieldsOfF((impl.MaxNodes-1)/(2+2*under), under)
		holdSize(t, "as many fields as there can be", d, impl.MaxNodes+1)
		count := 1200
		d.Ctors[0].Type = fieldsOfF(count, under)
		// C, t, F, sort; minor; t, F; C t; then a field, a hypothesis and an
		// argument for each.
		each := 2 + 2*under + 1 + 2*under + 3 + 2*under + 2
		holdSize(t, "many fields", d, 4+1+2+3+3+count*each)
		if spent := time.Since(begin); spent > 20*time.Second {
			t.Errorf("under %d: %v", under, spent)
		}
	}
}
