package tests

import (
	"math/rand"
	"slices"
	"testing"

	"loop.example/g00005/impl"
)

// takenEnv has more declarations behind kernelEnv, all of which Add has taken.
func takenEnv(t *testing.T, r *rand.Rand, count int) *kernelMaker {
	t.Helper()
	m := newKernelMaker(r, 0)
	for range count {
		if next, _, code := impl.Add(m.e, m.decl(), impl.MaxFuel); code == 0 {
			m.e = next
		}
	}
	return m
}

// Promise 6: each environment that Add makes is valid, and says the same as the
// one in front of all that this has; what is refused leaves nothing.
func TestAddKeepsTheFront(t *testing.T) {
	t.Parallel()
	r := rand.New(rand.NewSource(113))
	taken, refused := 0, 0
	for i := range 6 {
		m := newKernelMaker(r, 60*(i%2))
		for range 25 {
			d := m.decl()
			names := allNames(m.e)
			front, said := copyEnv(m.e), map[string]answers{}
			for range 4 {
				name := names[r.Intn(len(names))]
				said[name] = answersOf(m.e, name, nil)
			}
			next, _, code := impl.Add(m.e, d, impl.MaxFuel)
			if !equalEnvs(m.e, front) {
				t.Fatalf("%s: the front was changed", kernelAsk{d: d}.text())
			}
			if code != 0 {
				refused++
				if len(next.Decls) != 0 {
					t.Fatalf("%s: something is left", kernelAsk{d: d}.text())
				}
				next = m.e
			} else {
				taken++
				if !impl.EnvOk(next) {
					t.Fatalf("%s: what was made is not valid", kernelAsk{d: d}.text())
				}
				if cut := envOf(next.Decls[:len(front.Decls)]...); !equalEnvs(cut, front) || !equalDecls(next.Decls[len(front.Decls)], d) {
					t.Fatalf("%s: the front is another one", kernelAsk{d: d}.text())
				}
			}
			for name, before := range said {
				if !sameAnswers(before, answersOf(next, name, nil)) {
					t.Errorf("%s: %s is another one", kernelAsk{d: d}.text(), name)
				}
			}
			m.e = next
		}
		holdEnv(t, "all that was taken", m.e, true)
	}
	if taken < 80 || refused < 10 {
		t.Errorf("%d taken, %d refused", taken, refused)
	}
}

// Promise 5: a recursor's type of a family that Add takes is a type.
func holdRecursorIsType(t *testing.T, front impl.Env, d impl.Decl) bool {
	t.Helper()
	e, _, code := impl.Add(front, d, impl.MaxFuel)
	if code != 0 {
		return false
	}
	info, ok := impl.Find(e, d.Name+".rec")
	typ, other := impl.RecursorType(d)
	if !ok || other != 0 || info.Kind != impl.InfoRecursor || !equalTerms(info.Type, typ) {
		t.Errorf("%s: the recursor is %v, %v", kernelAsk{d: d}.text(), info, ok)
	}
	names := info.Params
	if len(names) > impl.MaxParams {
		// no more names than these can be asked for
		typ, _ = impl.PutParams(typ, names[:1], []impl.Level{succ(zero(), 1)})
		names = names[1:]
	}
	sort, _, code, place := impl.Infer(e, names, nil, typ, impl.MaxFuel)
	if code == impl.CodeSize {
		return false
	}
	sort, _, other = impl.Whnf(e, sort, true, impl.MaxFuel)
	if code != 0 || other != 0 || sort.Nodes[len(sort.Nodes)-1].K != impl.TermSort {
		t.Errorf("%s: the recursor's type has code %d at %d", kernelAsk{d: d}.text(), code, place)
	}
	return true
}

func TestRecursorsAreTyped(t *testing.T) {
	t.Parallel()
	for _, e := range []impl.Env{claimEnv(), envOf(formedFamilies()...)} {
		for i, d := range e.Decls {
			if d.Kind == impl.KindFamily && !holdRecursorIsType(t, envOf(e.Decls[:i]...), d) {
				t.Errorf("%s is not taken", d.Name)
			}
		}
	}
	front := claimEnv()
	for _, d := range []impl.Decl{
		family("F", "a b c d e f", 1, "[! A 0 *max(a,b) *max(a,b)+1]", "F.mk", "[! A 0 *max(a,b) [! x 0 #0 [! y 0 [F{a,b,c,d,e,f} #1] [F{a,b,c,d,e,f} #2]]]]"),
		family("F", "v v1 v2", 0, "*max(v,v1)+1", "F.mk", "[! A 0 *v [! B 0 *v1 F{v,v1,v2}]]"),
		family("F", "", 0, "[! n 0 set [! m 0 Nat *1]]", "a", "[! x 0 set [! y 0 [! z 0 set [[F #0] two]] [[F #1] [Nat.succ two]]]]"),
		family("F", "", 0, "[! n 0 Nat *0]", "a", "[F two]", "b", "[! n 0 Nat [! x 0 [! m 0 Nat [! k 0 [vP #0] [F #1]]] [F [Nat.succ #1]]]]"),
		family("F", "u", 1, "[! A 0 [[id{u+2} *u+1] *u] [! a 0 #0 *u+1]]", "a", "[! A 0 [[id{u+2} *u+1] *u] [! a 0 #0 [[F{u} #1] #0]]]"),
		family("F", "", 0, "*1", "a", "[! x 0 [= X *1 Nat #0] [! y 0 [= X *1 Nat [! z 0 #0 #1]] F]]"),
		family("F", "", 1, "[! p 0 [[Prod{0,0} Nat] Nat] [! n 0 Nat *1]]", "a", "[! p 0 [[Prod{0,0} Nat] Nat] [[F #0] [. Prod 0 #0]]]"),
	} {
		if !holdRecursorIsType(t, behind(front, namedContext()...), d) {
			t.Errorf("%s is not taken", kernelAsk{d: d}.text())
		}
	}
	r := rand.New(rand.NewSource(114))
	taken := 0
	m := takenEnv(t, r, 10)
	for range 250 {
		if holdRecursorIsType(t, m.e, m.family()) {
			taken++
		}
	}
	if taken < 100 {
		t.Errorf("only %d families were taken", taken)
	}
}

// theoremsAsAxioms has an axiom for each theorem.
func theoremsAsAxioms(e impl.Env) impl.Env {
	e = copyEnv(e)
	for i, d := range e.Decls {
		if d.Kind == impl.KindTheorem {
			e.Decls[i] = asAxiom(d)
		}
	}
	return e
}

// otherProofs has another proof for each theorem, one that Add would not take.
func otherProofs(e impl.Env) impl.Env {
	e = copyEnv(e)
	for i, d := range e.Decls {
		if d.Kind == impl.KindTheorem {
			e.Decls[i].Value = read("[*0 *0]")
		}
	}
	return e
}

// proofUses are declarations in which theorems stand where types and numbers
// hang on them.
func proofUses() []impl.Decl {
	return []impl.Decl{
		newDef("[[[Eq{1} Nat] four] four]", "easy"),
		newTheorem("[[[Eq{1} Nat] four] four]", "easy"),
		newTheorem("[[[Eq{0} [[[Eq{1} Nat] four] four]] easy] [[Eq.refl{1} Nat] four]]", "[[Eq.refl{0} [[[Eq{1} Nat] four] four]] easy]"),
		newTheorem("[[[Eq{0} [[[Eq{1} Nat] four] four]] easy] other]", "[[Eq.refl{0} [[[Eq{1} Nat] four] four]] easy]"),
		newTheorem("[[[Eq{1} Nat] two] two]", "easy"),
		newDef("Nat", "[[^ h 0 [[[Eq{1} Nat] four] [[add two] two]] two] easy]"),
		newDef("Nat", "[[[[[[Eq.rec{1} Nat] four] [^ b 0 Nat [^ h 0 [[[Eq{1} Nat] four] #0] [[[Eq{1} Nat] four] #1]]]] easy] four] easy]"),
		newDef("[[[Eq{1} Nat] four] four]", "[[[[[[Eq.rec{1} Nat] four] [^ b 0 Nat [^ h 0 [[[Eq{1} Nat] four] #0] [[[Eq{1} Nat] four] #1]]]] easy] four] easy]"),
		family("F", "", 0, "[! h 0 [[[Eq{1} Nat] four] four] *1]", "a", "[F easy]", "b", "[! h 0 [[[Eq{1} Nat] four] four] [! x 0 [F #0] [F easy]]]"),
		family("F", "", 0, "[! h 0 [[[Eq{1} Nat] four] two] *1]", "a", "[F easy]"),
		newAxiom("[[easy easy] two]"),
		newAxiom("easy"),
	}
}

// Promise 13, of theorems: what is taken and what is refused, with which code and
// with how much work, is the same with axioms in their places, and with other
// Values.
func TestTheoremsAreAsAxioms(t *testing.T) {
	t.Parallel()
	r := rand.New(rand.NewSource(115))
	taken, refused := 0, 0
	for i := range 5 {
		m := takenEnv(t, r, 30)
		m.faults = 60 * (i % 2)
		fronts := []impl.Env{theoremsAsAxioms(m.e), otherProofs(m.e)}
		decls := proofUses()
		for range 40 {
			d := m.decl()
			// what is proved stands in it
			if proofs := theoremsOf(m.e); d.Kind == impl.KindDef && r.Intn(2) == 0 {
				proof := proofs[r.Intn(len(proofs))]
				d.Value = app(lam("h", 0, proof.Type, treeOf(d.Value).lifted(0, 1).term()), constant(proof.Name))
			}
			decls = append(decls, d)
		}
		for _, d := range decls {
			want := kernelAsk{d: d}.ask(t, m.e, impl.MaxFuel)
			for _, e := range fronts {
				kernelAsk{d: d}.hold(t, e, impl.MaxFuel, want)
				for ctor := range d.Ctors {
					universe := kernelAsk{d, true, ctor}
					universe.hold(t, e, impl.MaxFuel, universe.ask(t, m.e, impl.MaxFuel))
				}
			}
			if want.code == 0 {
				taken++
			} else {
				refused++
			}
		}
		// all of them at once; the theorems in front need not be proved again
		if _, at, code := impl.AddAll(fronts[0].Decls, impl.MaxFuel); code != 0 {
			t.Errorf("axioms: code %d at %d", code, at)
		}
	}
	if taken < 100 || refused < 30 {
		t.Errorf("%d taken, %d refused", taken, refused)
	}
}

func theoremsOf(e impl.Env) []impl.Decl {
	return slices.DeleteFunc(slices.Clone(e.Decls), func(d impl.Decl) bool { return d.Kind != impl.KindTheorem })
}

// valuesFor has the Value for each definition in a term, as deep as they go.
func valuesFor(e impl.Env, x impl.Term) impl.Term {
	table := slowTable(e)
	var unfold func(x tree, _ int) tree
	unfold = func(x tree, _ int) tree {
		info := table[x.node.S]
		if x.node.K != impl.TermConst || info.Kind != impl.InfoDef {
			return x
		}
		value, code := impl.PutParams(e.Decls[info.Decl].Value, info.Params, x.node.Levels)
		if code != 0 {
			panic("a level is too great")
		}
		return treeOf(value).changed(0, unfold)
	}
	return treeOf(x).changed(0, unfold).term()
}

func valuesInDecl(e impl.Env, d impl.Decl) impl.Decl {
	d = copyDecl(d)
	d.Type = valuesFor(e, d.Type)
	if len(d.Value.Nodes) > 0 {
		d.Value = valuesFor(e, d.Value)
	}
	for i := range d.Ctors {
		d.Ctors[i].Type = valuesFor(e, d.Ctors[i].Type)
	}
	return d
}

// Promise 13, of definitions: with their Values in their places, a declaration is
// taken just when it was, and refused with the same code.
func TestValuesMayStandForDefinitions(t *testing.T) {
	t.Parallel()
	r := rand.New(rand.NewSource(116))
	taken, refused := 0, 0
	for i := range 6 {
		m := takenEnv(t, r, 30)
		m.faults = 60 * (i % 2)
		for range 50 {
			d := m.decl()
			other := valuesInDecl(m.e, d)
			if equalDecls(d, other) {
				continue
			}
			first, second := kernelAsk{d: d}.ask(t, m.e, impl.MaxFuel), kernelAsk{d: other}.ask(t, m.e, impl.MaxFuel)
			if slices.Contains([]int{first.code, second.code}, impl.CodeSize) || slices.Contains([]int{first.code, second.code}, impl.CodeFuel) {
				continue
			}
			if first.code != second.code {
				t.Errorf("%s: %v, with Values %v", kernelAsk{d: d}.text(), first, second)
			}
			if first.code == 0 {
				taken++
			} else {
				refused++
			}
		}
	}
	if taken < 50 || refused < 10 {
		t.Errorf("%d taken, %d refused", taken, refused)
	}
	// the definition need not be there at all
	e, front := kernelEnv(), stepEnv()
	for _, d := range e.Decls[len(front.Decls):] {
		other := valuesInDecl(e, d)
		if d.Kind == impl.KindDef {
			continue
		}
		next, _, code := impl.Add(front, other, impl.MaxFuel)
		if code != 0 {
			t.Errorf("%s: code %d", d.Name, code)
			continue
		}
		front = next
	}
}

// A definition is its Value, by work, where an axiom is nothing: a theorem's Value
// is not looked at even where that would help.
func TestDefinitionsAreMoreThanTheorems(t *testing.T) {
	e := envOf(natFamily(), eqFamily(), family("True", "", 0, "*0", "True.intro", "True"), family("Wrap", "", 0, "*1", "Wrap.mk", "[! h 0 True [! n 0 Nat Wrap]]"))
	for _, c := range []struct {
		front impl.Decl
		code  int
	}{
		{declared(impl.KindDef, "n", "", "Nat", "Nat.zero"), 0},
		{declared(impl.KindAxiom, "n", "", "Nat", ""), impl.CodeArg},
	} {
		kernelAsk{d: newTheorem("[[[Eq{1} Nat] n] Nat.zero]", "[[Eq.refl{1} Nat] Nat.zero]")}.hold(t, behind(e, c.front), 100, kernelAnswer{workFor(c.code), c.code})
	}
	// all proofs of one proposition are one, whether they have Values or not
	for _, kind := range []int{impl.KindDef, impl.KindTheorem, impl.KindAxiom} {
		proof := declared(kind, "p", "", "True", "True.intro")
		if kind == impl.KindAxiom {
			proof = declared(kind, "p", "", "True", "")
		}
		same := newTheorem("[[[Eq{1} Wrap] [[Wrap.mk p] Nat.zero]] [[Wrap.mk True.intro] Nat.zero]]", "[[Eq.refl{1} Wrap] [[Wrap.mk p] Nat.zero]]")
		if _, _, code := impl.Add(behind(e, proof), same, 1000); code != 0 {
			t.Errorf("kind %d: code %d", kind, code)
		}
	}
}

// workFor is 3 and 2 for the arguments, 1 for the whole, 1 for each argument
// that is compared, and for the definition its step.
func workFor(code int) int {
	work := 3 + 2 + 1 + 1 + 1
	if code == 0 {
		return work + 1 + 1
	}
	return work
}
