package tests

import (
	"math/rand"
	"testing"

	"loop.example/g00005/impl"
)

// conv is Conv with the greatest fuel, for terms that have a type. It is false
// where the fuel runs out.
func conv(t *testing.T, e impl.Env, ctx []impl.Term, a, b impl.Term) (same, ok bool) {
	t.Helper()
	same, _, code := impl.Conv(e, ctx, a, b, impl.MaxFuel)
	if code != 0 && code != impl.CodeFuel && code != impl.CodeSize {
		t.Fatalf("%s and %s: code %d", written(a), written(b), code)
	}
	return same, code == 0
}

// holdSameBothWays fails unless two terms are the same, whichever is first.
func holdSameBothWays(t *testing.T, what string, e impl.Env, ctx []impl.Term, a, b impl.Term) {
	t.Helper()
	for range 2 {
		if same, ok := conv(t, e, ctx, a, b); ok && !same {
			t.Fatalf("%s: not the same in %v:\n%s\n%s", what, len(ctx), written(a), written(b))
		}
		a, b = b, a
	}
}

// renamed has other names and modes for its binders.
func renamed(r *rand.Rand, x impl.Term) impl.Term {
	x = copyTerm(x)
	for i, n := range x.Nodes {
		switch n.K {
		case impl.TermLam, impl.TermPi:
			x.Nodes[i].M = r.Intn(3)
			x.Nodes[i].S = []string{"x", "other"}[r.Intn(2)]
		case impl.TermLet:
			x.Nodes[i].S = "z"
		}
	}
	return x
}

// forms are other terms that a term is the same as: itself with other names,
// what its steps make of it, its Whnfs and its normal form.
func forms(r *rand.Rand, e impl.Env, x impl.Term) []impl.Term {
	list := []impl.Term{renamed(r, x)}
	y := x
	for range 3 {
		z, kind, code := impl.Step(e, y)
		if kind == 0 || code != 0 {
			break
		}
		list = append(list, z)
		y = z
	}
	for _, deep := range []bool{false, true} {
		if y, _, code := impl.Whnf(e, x, deep, 2000); code == 0 {
			list = append(list, y)
		}
	}
	if y, _, code := impl.Normal(e, x, 2000); code == 0 {
		list = append(list, y)
	}
	return list
}

// expanded is a term of a function's or a structure's type, by eta.
func (m *typedMaker) expanded(typ, x tree) (tree, bool) {
	typ = m.whnf(typ)
	if typ.node.K == impl.TermPi {
		return m.under(impl.TermLam, "e", typ.kids[0], nil, func(v tree) tree { return apply(x, []tree{v}) }), true
	}
	head, args := typ.spine()
	if head.node.K != impl.TermConst || m.table[head.node.S].Kind != impl.InfoFamily || !impl.IsStructure(m.decl(head.node.S)) {
		return tree{}, false
	}
	d := m.decl(head.node.S)
	y := apply(treeOf(constant(d.Ctors[0].Name, head.node.Levels...)), args)
	for i := range slowFields(d, 0) {
		y = apply(y, []tree{{impl.Node{K: impl.TermProj, S: d.Name, N: i}, []tree{x}}})
	}
	return y, true
}

// typed has a function make terms; it is false where that takes the slow way too
// long.
func typed(do func()) (ok bool) {
	defer func() {
		if met := recover(); met != nil {
			_ = met.(tooLong)
			ok = false
		}
	}()
	do()
	return true
}

// A term is the same as itself, as what steps make of it, its Whnf and its normal
// form, and by eta.
func TestConvOfFormsOfATerm(t *testing.T) {
	t.Parallel()
	r := rand.New(rand.NewSource(94))
	e := stepEnv()
	lost := 0
	for _, text := range dependent() {
		for _, y := range forms(r, e, read(text)) {
			holdSameBothWays(t, "forms", e, nil, read(text), y)
		}
	}
	for range 250 {
		if !typed(func() {
			m := &typedMaker{typer: newTyper(e), r: r}
			typ := m.whole(1)
			whole := m.term(typ, 1+r.Intn(3))
			if y, ok := m.expanded(typ, whole); ok {
				holdSameBothWays(t, "eta", e, nil, whole.term(), y.term())
			}
			byKind := make([][]partIn, 10)
			whole.parts(nil, byKind)
			for _, parts := range byKind {
				if len(parts) == 0 {
					continue
				}
				part := parts[r.Intn(len(parts))]
				var ctx []impl.Term
				for _, typ := range part.ctx {
					ctx = append(ctx, typ.term())
				}
				for _, y := range forms(r, e, part.x.term()) {
					holdSameBothWays(t, "forms", e, ctx, part.x.term(), y)
				}
			}
		}) {
			lost++
		}
	}
	if lost > 50 {
		t.Errorf("%d were too long", lost)
	}
}

// holdEquivalence is for terms of one type: of any three of them.
func holdEquivalence(t *testing.T, e impl.Env, ctx []impl.Term, list []impl.Term) (yes, no int) {
	t.Helper()
	same := make([][]bool, len(list))
	for i, a := range list {
		for _, b := range list {
			answer, ok := conv(t, e, ctx, a, b)
			if !ok {
				return 0, 0
			}
			same[i] = append(same[i], answer)
		}
	}
	for i := range list {
		for k := range list {
			if i != k && same[i][k] {
				yes++
			} else if i != k {
				no++
			}
			if i == k && !same[i][k] || same[i][k] != same[k][i] {
				t.Fatalf("%v, %v:\n%s\n%s", same[i][k], same[k][i], written(list[i]), written(list[k]))
			}
			for j := range list {
				if same[i][j] && same[j][k] && !same[i][k] {
					t.Fatalf("the first two are the same, and the last two:\n%s\n%s\n%s", written(list[i]), written(list[j]), written(list[k]))
				}
			}
		}
	}
	return yes, no
}

func TestConvIsAnEquivalence(t *testing.T) {
	t.Parallel()
	r := rand.New(rand.NewSource(95))
	e := stepEnv()
	w := slowStepsIn(e)
	yes, no, lost := 0, 0, 0
	for range 150 {
		if !typed(func() {
			m := &typedMaker{typer: newTyper(e), r: r}
			typ := m.whole(1)
			if r.Intn(2) == 0 {
				from := m.whole(0)
				typ = m.under(impl.TermPi, "x", from, nil, func(tree) tree { return typ })
			}
			var list []impl.Term
			for len(list) < 8 {
				x := m.term(typ, r.Intn(3))
				all := append(forms(r, e, x.term()), x.term())
				list = append(list, all[r.Intn(len(all))])
				if y, ok := m.expanded(typ, x); ok && r.Intn(2) == 0 {
					list = append(list, y.term())
				}
			}
			for i, a := range list[1:] {
				if len(a.Nodes)+len(list[i].Nodes) < 300 {
					convAsk{r.Intn(2), nil, list[i], a}.holdSlow(t, w, r.Intn(100))
				}
			}
			more, other := holdEquivalence(t, e, nil, list)
			yes, no = yes+more, no+other
		}) {
			lost++
		}
	}
	if yes < 1000 || no < 1000 || lost > 60 {
		t.Errorf("%d are the same, %d are not, %d were too long", yes, no, lost)
	}
}

// convGroups are terms in convContext, those of a row being of one type; what
// stands together in a group is the same, and the groups are not.
func convGroups() [][][]string {
	return [][][]string{
		{
			{"#11", "[[add #11] Nat.zero]", "[[id{1} Nat] #11]", "[[first #11] two]", "[. Prod 0 [[[[Prod.mk{0,0} Nat] Nat] #11] #10]]", "[= x Nat two #12]"},
			{"#10", "[[second two] #10]"},
			{"two", "deuce", "[Nat.succ one]", "[[add one] uno]", "[[^ n 0 Nat [Nat.succ #0]] uno]"},
			{"[#9 two]", "[#9 deuce]", "[[^ x 0 Nat [#10 #0]] [Nat.succ uno]]"},
			{"[[by two] #2]", "[[by deuce] #1]", "[[by two] [[Eq.refl{1} Nat] two]]"},
			{"[[add Nat.zero] #11]", "[[add [[add Nat.zero] Nat.zero]] #11]"},
			{"[. Prod 0 #7]", "[[[[[Prod.rec{1,0,0} Nat] Nat] [^ t 0 [[Prod{0,0} Nat] Nat] Nat]] [^ a 0 Nat [^ b 0 Nat #1]]] #7]"},
		},
		{
			{"#9", "[^ n 0 Nat [#10 #0]]", "[^ n 0 Nat [#10 [[add #0] Nat.zero]]]", "[[id{1} Fun] #9]"},
			{"#8", "[^ n 0 Nat [[^ m 0 Nat [#10 #0]] #0]]"},
			{"Nat.succ", "[^ n 0 Nat [[add #0] one]]", "[^ n 0 Nat [Nat.succ #0]]"},
			{"[add one]", "[add uno]", "[^ n 0 Nat [[add one] #0]]"},
			{"[^ n 0 Nat #0]", "[id{1} Nat]", "[^ n 0 Nat [[add #0] Nat.zero]]", "[second two]"},
			{"[^ n 0 Nat two]", "[first deuce]"},
			{"[add Nat.zero]", "[^ n 0 Nat [[add Nat.zero] #0]]"},
		},
		{
			{"#7", "[[[[Prod.mk{0,0} Nat] Nat] [. Prod 0 #7]] [. Prod 1 #7]]", "[[[[Prod.mk{0,0} Nat] Nat] [[add [. Prod 0 #7]] Nat.zero]] [. Prod 1 #7]]"},
			{"#6"},
			{"[[[[Prod.mk{0,0} Nat] Nat] [. Prod 1 #7]] [. Prod 0 #7]]"},
			{"[[[[Prod.mk{0,0} Nat] Nat] two] one]", "[[[[Prod.mk{0,0} Nat] Nat] deuce] uno]"},
			{"[[[[Prod.mk{0,0} Nat] Nat] [. Prod 0 #7]] [. Prod 1 #6]]"},
		},
		{{"#5", "#4", "Unit.star", "[. Prod 1 pair]"}},
		{{"#2", "#1", "[any{0} [#3 #11]]"}},
		{
			{"Nat", "[[id{2} *1] Nat]", "[= x *1 Nat #0]"},
			{"Fun", "[! n 0 Nat Nat]", "[! x 2 [[id{2} *1] Nat] Nat]", "[pow one]"},
			{"Unary", "[! n 0 Nat [! m 0 Nat Nat]]", "[! n 0 Nat Fun]", "[pow two]"},
			{"[[Vec{1} Nat] two]", "[[Vec{1} [[id{2} *1] Nat]] deuce]"},
			{"[[Vec{1} Nat] #11]"},
			{"Unit"},
			{"#0"},
		},
		{{"*u", "*imax(1,u)", "*max(u,u)"}, {"*v"}, {"*u+1", "*max(u+1,u)"}, {"*imax(u,v)"}, {"*max(u,v)", "*max(v,u)"}},
	}
}

func TestConvOfGroups(t *testing.T) {
	t.Parallel()
	e, ctx := convEnv(), convContext()
	for _, groups := range convGroups() {
		var list []impl.Term
		var group []int
		for i, texts := range groups {
			for _, text := range texts {
				list, group = append(list, read(text)), append(group, i)
			}
		}
		holdEquivalence(t, e, ctx, list)
		for i, a := range list {
			for k, b := range list {
				if same, ok := conv(t, e, ctx, a, b); !ok || same != (group[i] == group[k]) {
					t.Errorf("%s and %s: %v, %v", written(a), written(b), same, ok)
				}
			}
		}
	}
}
