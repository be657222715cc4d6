package tests

import (
	"math/rand"
	"testing"

	"loop.example/g00005/impl"
)

// canonGroups are more rows of terms in convContext, as those of convGroups: of
// functions, pairs and proofs within each other.
func canonGroups() [][][]string {
	sigma := "[[Sigma{0,1} Nat] [^ n 0 Nat [[Vec{1} Nat] #0]]]"
	some := "[any{1} " + sigma + "]"
	boxes := "[Box{0} [! n 0 Nat [Box{0} Nat]]]"
	box := "[any{1} " + boxes + "]"
	relation := "[^ a 0 Nat [^ b 0 Nat True]]"
	return [][][]string{
		// functions of functions
		{
			{"of", "[^ f 1 Fun [of #0]]", "[^ f 0 Fun [of [^ n 2 Nat [#1 #0]]]]"},
			{"[^ f 0 Fun [#0 two]]", "[^ f 0 [! m 2 Nat Nat] [#0 [Nat.succ uno]]]"},
			{"[^ f 0 Fun two]", "[^ f 0 Fun deuce]"},
			{"[^ f 0 Fun [of Nat.succ]]", "[^ f 0 Fun [of [^ n 0 Nat [[add #0] one]]]]"},
			{"[^ f 0 Fun [of [add one]]]"},
			{"[^ f 0 Fun [of #10]]"},
		},
		// functions of pairs
		{
			{"[^ p 0 Pair [. Prod 0 #0]]", "[^ p 0 [[Prod{0,0} Nat] Unit] [. Prod 0 [[[[Prod.mk{0,0} Nat] Unit] [. Prod 0 #0]] #6]]]"},
			{"[^ p 0 Pair #12]", "[^ p 0 Pair [. Prod 0 [[[[Prod.mk{0,0} Nat] Unit] #12] [. Prod 1 #0]]]]"},
			{"[^ p 0 Pair [of [^ n 0 Nat [. Prod 0 #1]]]]"},
		},
		// functions that give pairs
		{
			{"[^ n 0 Nat #8]", "[^ n 0 Nat [[[[Prod.mk{0,0} Nat] Nat] [. Prod 0 #8]] [. Prod 1 #8]]]"},
			{"pairs", "[^ n 0 Nat [pairs #0]]", "[^ n 0 Nat [[[[Prod.mk{0,0} Nat] Nat] [. Prod 0 [pairs #0]]] [. Prod 1 [pairs [[add #0] Nat.zero]]]]]"},
			{"[^ n 0 Nat [pairs two]]"},
		},
		// functions of proofs, and that give proofs
		{
			{"[^ h 0 [#3 #11] two]", "[^ h 0 [#3 [[add #11] Nat.zero]] deuce]"},
			{"[^ h 0 [#3 #11] #12]"},
			{"[^ h 0 [#3 #11] [[by #12] #0]]", "[^ h 0 [#3 #11] [[by #12] #2]]"},
		},
		{{"[^ h 0 [#3 #11] #0]", "[^ h 0 [#3 #11] #3]", "[^ h 0 [#3 #11] #2]"}},
		{{"[^ n 0 Nat [[Eq.refl{1} Nat] #0]]", "[Eq.refl{1} Nat]", "[^ n 0 Nat [any{0} [[[Eq{1} Nat] #0] #0]]]"}},
		// pairs whose second type uses the first, and those with a proof
		{
			{some, "[[[[Sigma.mk{0,1} Nat] [^ n 0 Nat [[Vec{1} Nat] #0]]] [. Sigma 0 " + some + "]] [. Sigma 1 " + some + "]]"},
			{"[[[[Sigma.mk{0,1} Nat] [^ n 0 Nat [[Vec{1} Nat] #0]]] two] [any{2} [[Vec{1} Nat] two]]]", "[[[[Sigma.mk{0,1} Nat] [Vec{1} Nat]] deuce] [any{2} [[Vec{1} Nat] [Nat.succ one]]]]"},
			{"[[[[Sigma.mk{0,1} Nat] [Vec{1} Nat]] one] [any{2} [[Vec{1} Nat] uno]]]"},
		},
		{
			{"[[Two.mk two] [[Eq.refl{1} Nat] two]]", "[[Two.mk deuce] [any{0} [[[Eq{1} Nat] deuce] two]]]"},
			{"[any{1} Two]", "[[Two.mk [. Two 0 [any{1} Two]]] [. Two 1 [any{1} Two]]]", "[[Two.mk [. Two 0 [any{1} Two]]] [any{0} [[[Eq{1} Nat] [. Two 0 [any{1} Two]]] two]]]"},
		},
		// functions in pairs, and pairs in these
		{
			{box, "[[Box.mk{0} [! n 0 Nat [Box{0} Nat]]] [. Box 0 " + box + "]]", "[[Box.mk{0} [! n 0 Nat [Box{0} Nat]]] [^ n 0 Nat [[Box.mk{0} Nat] [. Box 0 [[. Box 0 " + box + "] #0]]]]]"},
			{"[[Box.mk{0} [! n 0 Nat [Box{0} Nat]]] [^ n 0 Nat [[Box.mk{0} Nat] #0]]]", "[[Box.mk{0} [! n 0 Nat [Box{0} Nat]]] [Box.mk{0} Nat]]"},
			{"[[Box.mk{0} [! n 0 Nat [Box{0} Nat]]] [^ n 0 Nat [[Box.mk{0} Nat] two]]]"},
		},
		// quotients
		{
			{"[[[Quot.mk{0} Nat] " + relation + "] two]", "[[[Quot.mk{0} [[id{2} *1] Nat]] [^ a 0 Nat [^ b 0 Nat [[id{1} *0] True]]]] deuce]"},
			{"[[[Quot.mk{0} Nat] " + relation + "] #11]"},
			{"[any{1} [[Quot{0} Nat] " + relation + "]]"},
		},
		// recursors that are stuck
		{
			{"[[add #11] #10]", "[[[[Nat.rec{1} [^ t 0 Nat Nat]] [[id{1} Nat] #11]] [^ n 0 Nat Nat.succ]] #10]"},
			{"[[add #10] #11]"},
			{"[[[[Nat.rec{1} [^ t 0 Nat Nat]] #11] [^ n 0 Nat [^ m 0 Nat #0]]] #10]", "[[[[Nat.rec{1} [^ t 0 Nat Nat]] #11] [^ n 0 Nat [id{1} Nat]]] #10]"},
			{"[[[[Nat.rec{1} [^ t 0 Nat Nat]] #11] [^ n 0 Nat [^ m 0 Nat #1]]] #10]"},
			{"[[False.rec{1} [^ t 0 False Nat]] [any{0} False]]", "[[False.rec{1} [^ t 0 False [[id{2} *1] Nat]]] [[id{0} False] [any{0} False]]]"},
			{"[[. Prod 0 [any{1} FunPair]] two]", "[[. Prod 0 [any{1} [[Prod{0,0} Fun] Nat]]] [Nat.succ one]]"},
			{"[[. Prod 0 [any{1} FunPair]] one]"},
		},
	}
}

// formOf is the canonical form, nothing where the fuel runs out, or it is too
// great.
func formOf(t *testing.T, e impl.Env, ctx []impl.Term, x impl.Term) impl.Term {
	t.Helper()
	form, _, code := impl.Canon(e, ctx, x, impl.MaxFuel)
	if code != 0 && code != impl.CodeFuel && code != impl.CodeSize {
		t.Fatalf("%s: code %d", written(x), code)
	}
	return form
}

// holdSameForms is promise 10 for terms of one type: Conv says yes just when the
// forms are the same. Each pair is told of, and whether it can be told.
func holdSameForms(t *testing.T, e impl.Env, ctx []impl.Term, list []impl.Term, tell func(i, k int, same, told bool)) {
	t.Helper()
	var forms []impl.Term
	for _, x := range list {
		forms = append(forms, formOf(t, e, ctx, x))
	}
	for i, a := range list {
		for k, b := range list[:i+1] {
			same, told := conv(t, e, ctx, a, b)
			told = told && len(forms[i].Nodes) > 0 && len(forms[k].Nodes) > 0
			if told && impl.SameTerm(forms[i], forms[k]) != same {
				t.Fatalf("Conv says %v of\n%s\n%s, which have the forms\n%s\n%s", same, written(a), written(b), written(forms[i]), written(forms[k]))
			}
			tell(i, k, same, told)
		}
	}
}

// ofGroups are the terms of all groups, each with the number of its group.
func ofGroups(groups [][]string) (list []impl.Term, group []int) {
	for i, texts := range groups {
		for _, text := range texts {
			list, group = append(list, read(text)), append(group, i)
		}
	}
	return list, group
}

func TestCanonOfGroups(t *testing.T) {
	t.Parallel()
	e, ctx := canonEnv(), convContext()
	for _, groups := range append(convGroups(), canonGroups()...) {
		list, group := ofGroups(groups)
		holdSameForms(t, e, ctx, list, func(i, k int, same, told bool) {
			if !told || same != (group[i] == group[k]) {
				t.Errorf("%s and %s: %v, %v", written(list[i]), written(list[k]), same, told)
			}
		})
	}
}

// Types, by both functions and both ways to compare them.
func TestCanonOfGroupsOfTypes(t *testing.T) {
	t.Parallel()
	e, ctx := canonEnv(), convContext()
	list, group := ofGroups([][]string{
		{"Nat", "[[id{2} *1] Nat]", "[= x *1 Nat #0]", "[pow Nat.zero]"},
		{"Fun", "[! n 0 Nat Nat]", "[! x 2 [[id{2} *1] Nat] Nat]", "[pow one]"},
		{"[! n 0 Nat [[Vec{1} Nat] #0]]", "[! n 0 Nat [[Vec{1} [pow Nat.zero]] [[add #0] Nat.zero]]]"},
		{"[! n 0 Nat [[Vec{1} Nat] two]]"},
		{"[[[Eq{1} Fun] #9] #8]", "[[[Eq{1} [! n 0 Nat Nat]] [^ n 0 Nat [#10 #0]]] [[id{1} Fun] #8]]"},
		{"[[[Eq{1} Fun] #8] #9]"},
		{"[[[Eq{1} Unit] #5] #4]", "[[[Eq{1} Unit] #4] Unit.star]"},
		{"[[[Eq{0} [#3 #11]] #2] #1]", "[[[Eq{0} [#3 #11]] #1] #1]"},
		{"[[[Eq{1} Pair] pair] pair]", "[[[Eq{1} Pair] [[[[Prod.mk{0,0} Nat] Unit] [. Prod 0 pair]] #5]] pair]"},
		{"[[Prod{0,0} Nat] Nat]", "[[Prod{max(0,0),0} [pow Nat.zero]] Nat]"},
		{"[[Prod{0,0} Nat] Unit]", "Pair"},
		{"*u", "*imax(1,u)"},
		{"*v"},
		{"#0"},
		{"[pow #11]"},
		{"[pow #10]", "[pow [[second two] #10]]"},
		{"False"},
		{"[#3 #11]", "[#3 [[first #11] two]]"},
		{"[#3 two]", "[[^ P 0 [! n 0 Nat *0] [#0 deuce]] #3]"},
	})
	var forms []impl.Term
	for _, x := range list {
		form, _, code := impl.CanonType(e, ctx, x, impl.MaxFuel)
		if code != 0 {
			t.Fatalf("%s: code %d", written(x), code)
		}
		forms = append(forms, form)
	}
	holdSameForms(t, e, ctx, list, func(i, k int, same, told bool) {
		yes, _, code := impl.ConvTypes(e, ctx, list[i], list[k], impl.MaxFuel)
		if !told || code != 0 || yes != same || same != (group[i] == group[k]) || impl.SameTerm(forms[i], forms[k]) != same {
			t.Errorf("%s and %s: %v and %v, code %d, forms\n%s\n%s", written(list[i]), written(list[k]), same, yes, code, written(forms[i]), written(forms[k]))
		}
	})
}

// canonCounts are the pairs that are the same, those that are not, and those that
// can't be told.
type canonCounts struct {
	yes, no, lost int
}

func (c *canonCounts) add(i, k int, same, told bool) {
	switch {
	case i == k:
	case !told:
		c.lost++
	case same:
		c.yes++
	default:
		c.no++
	}
}

func (c *canonCounts) hold(t *testing.T, least int) {
	t.Helper()
	if c.yes < least || c.no < least || c.lost > least/4 {
		t.Errorf("%d are the same, %d are not, %d can't be told", c.yes, c.no, c.lost)
	}
}

// Closed terms of one type, with others that are the same by steps and by eta.
func TestCanonOfTypedTerms(t *testing.T) {
	t.Parallel()
	r := rand.New(rand.NewSource(135))
	e := stepEnv()
	counts, long := &canonCounts{}, 0
	for range 100 {
		if !typed(func() {
			m := &typedMaker{typer: newTyper(e), r: r}
			typ := m.whole(1)
			if r.Intn(2) == 0 {
				from := m.whole(0)
				typ = m.under(impl.TermPi, "x", from, nil, func(tree) tree { return typ })
			}
			var list []impl.Term
			for len(list) < 8 {
				x := m.term(typ, r.Intn(3))
				all := append(forms(r, e, x.term()), x.term())
				list = append(list, all[r.Intn(len(all))])
				if y, ok := m.expanded(typ, x); ok && r.Intn(2) == 0 {
					list = append(list, y.term())
				}
			}
			holdSameForms(t, e, nil, list, counts.add)
		}) {
			long++
		}
	}
	counts.hold(t, 400)
	if long > 40 {
		t.Errorf("%d were too long", long)
	}
}

// Terms in a context, each held against others of its type and against what is the
// same as it here and there.
func TestCanonOfTypedTermsInAContext(t *testing.T) {
	t.Parallel()
	r := rand.New(rand.NewSource(137))
	e, ctx := canonEnv(), convContext()
	counts := &canonCounts{}
	for range 60 {
		m := &checkMaker{r, checkTexts(), 0}
		typ := []string{"aNat", "aPair", "aFun", "aType"}[r.Intn(4)]
		var list []impl.Term
		for len(list) < 10 {
			x := m.make(typ, r.Intn(3)).term()
			if _, _, code, _ := impl.Infer(e, []string{"u"}, ctx, x, impl.MaxFuel); code != 0 || len(x.Nodes) > 200 {
				continue
			}
			list = append(list, x, forms(r, e, x)[0])
			if y, _, code := impl.Normal(e, x, 2000); code == 0 {
				list = append(list, y)
			}
		}
		holdSameForms(t, e, ctx, list, counts.add)
	}
	counts.hold(t, 800)
}

// What has no proof in it is its form's form as well.
func TestCanonOfForms(t *testing.T) {
	t.Parallel()
	e, ctx := canonEnv(), convContext()
	count := 0
	for _, groups := range append(convGroups(), canonGroups()...) {
		for _, texts := range groups {
			form := formOf(t, e, ctx, read(texts[0]))
			if len(impl.HolesOf(form)) > 0 {
				continue
			}
			count++
			if again := formOf(t, e, ctx, form); told(again) != written(form) {
				t.Errorf("%s: %s becomes %s", texts[0], written(form), told(again))
			}
			if same, ok := conv(t, e, ctx, form, read(texts[0])); !ok || !same {
				t.Errorf("%s is not the same as %s", written(form), texts[0])
			}
		}
	}
	if count < 40 {
		t.Errorf("only %d have no proof in them", count)
	}
}
