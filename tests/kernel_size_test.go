package tests

import (
	"testing"

	"loop.example/g00005/impl"
)

// withField is a family with a field of this type.
func withField(typ impl.Term) impl.Decl {
	d := family("F", "", 0, "*1", "F.mk", "F")
	d.Ctors[0].Type = pi("x", 0, typ, constant("F"))
	return d
}

// A family whose recursor's type is just as great as may be, and one more.
func TestAddGreatRecursors(t *testing.T) {
	t.Parallel()
	e := checkSizeEnv()
	fill := paddedTyped("[Big @]")
	// one node more
	lost := paddedTyped("[nothing [. Nat 0 @]]")
	most := impl.MaxNodes - (slowRecursor(withField(fill(101))).size() - 101)
	for pad := most - 1; pad <= most+1; pad++ {
		d := withField(fill(pad))
		q := kernelAsk{d: d}
		if pad > most {
			if got := slowRecursor(d).size(); got != impl.MaxNodes+1 {
				t.Fatalf("a recursor's type of %d nodes", got)
			}
			for _, d := range []impl.Decl{d, withField(lost(pad)), family("F", "", 0, "[! x 0 two *1]", "F.mk", "[F two]")} {
				if len(d.Ctors[0].Type.Nodes) < 100 {
					d.Ctors[0].Type = pi("x", 0, fill(pad), read("[F two]"))
				}
				// ahead of constants that are not there and of types that are none
				kernelAsk{d: d}.hold(t, e, impl.MaxFuel, kernelAnswer{0, impl.CodeSize})
				kernelAsk{d, true, 0}.holdInput(t, "a great recursor", e)
			}
			// what is refused for its name or form is told first
			d.Name = "Nat"
			q.d = d
			q.hold(t, e, impl.MaxFuel, kernelAnswer{0, impl.CodeName})
			d = withField(pi("x", 0, constant("F"), fill(pad)))
			kernelAsk{d: d}.hold(t, e, impl.MaxFuel, kernelAnswer{0, impl.CodePositive})
			continue
		}
		_, work, _, _ := impl.Infer(e, nil, nil, fill(pad), impl.MaxFuel)
		q.hold(t, e, impl.MaxFuel, kernelAnswer{work, 0})
		q.hold(t, e, work, kernelAnswer{work, 0})
		q.hold(t, e, work-1, kernelAnswer{work - 1, impl.CodeFuel})
		kernelAsk{d, true, 0}.hold(t, e, 0, kernelAnswer{})
		kernelAsk{d: withField(lost(pad - 1))}.hold(t, e, impl.MaxFuel, kernelAnswer{0, impl.CodeConst})
	}
}

// over has so many TermPis around a term.
func over(count int, typ, inside string) string {
	for range count {
		inside = "[! x 0 " + typ + " " + inside + "]"
	}
	return inside
}

// Each TermPi of a type makes its level greater: by three nodes for *0, by two
// for True.
func TestAddToTheLimitOfLevels(t *testing.T) {
	two := longLevel(impl.MaxLevel)
	great := impl.Decl{Kind: impl.KindAxiom, Name: "new", Params: impl.LevelsOf(universe(two)), Type: universe(two)}
	less := great
	less.Type = universe(longLevel(impl.MaxLevel - 1))
	holdKernelCases(t, kernelEnv(), []kernelCase{
		{great, 0, impl.CodeSize},
		{less, 0, 0},
		{newAxiom(over(21, "*0", "True")), 0, 0},
		{newAxiom(over(22, "*0", "True")), 0, impl.CodeSize},
		{newAxiom(over(31, "True", "True")), 0, 0},
		{newAxiom(over(32, "True", "True")), 0, impl.CodeSize},
		{newTheorem(over(31, "True", "True"), "two"), 1, impl.CodeArg},
		{newTheorem(over(32, "True", "True"), "two"), 0, impl.CodeSize},
		{newDef("Nat", over(32, "True", "True")), 0, impl.CodeSize},
		{newDef("Nat", over(31, "True", "True")), 1, impl.CodeArg},
		{newDef("two", over(32, "True", "True")), 0, impl.CodeSort},
		{family("F", "", 0, over(20, "*0", "*1")), 0, 0},
		{family("F", "", 0, over(21, "*0", "*1")), 0, impl.CodeSize},
		{family("F", "", 0, "*1", "c", over(20, "*0", "F")), 0, 0},
		{family("F", "", 0, "*1", "c", over(21, "*0", "F")), 0, impl.CodeSize},
		{family("F", "", 0, "*1", "c", "F", "d", over(31, "True", "F"), "e", "[! x 0 two F]"), 0, impl.CodeSort},
		{family("F", "", 0, "*1", "c", "F", "d", over(32, "True", "F"), "e", "[! x 0 two F]"), 0, impl.CodeSize},
		{family("F", "", 0, "*1", "c", "[! x 0 two F]", "d", over(32, "True", "F")), 0, impl.CodeSort},
		{family("F", "", 0, "*1", "c", "[! x 0 *1 F]", "d", over(32, "True", "F")), 0, impl.CodeUniverse},
	})
	// Universe makes no level of the whole constructor
	holdUniverseCases(t, kernelEnv(), []universeCase{
		{family("F", "", 0, "*1", "c", over(60, "*0", "F")), 0, 0, 0},
		{family("F", "", 0, "*1", "c", "[! y 0 "+over(31, "True", "True")+" F]"), 0, 0, 0},
		{family("F", "", 0, "*1", "c", "[! y 0 "+over(32, "True", "True")+" F]"), 0, 0, impl.CodeSize},
		{family("F", "", 0, "*1", "c", "[! x 0 *1 [! y 0 "+over(32, "True", "True")+" F]]"), 0, 0, impl.CodeUniverse},
		{family("F", "", 0, "*0", "c", "[! y 0 "+over(32, "True", "True")+" F]"), 0, 0, 0},
	})
}

// Terms that are great themselves, and such as become too great on the way.
func TestAddGreatTerms(t *testing.T) {
	t.Parallel()
	e := checkSizeEnv()
	large := typedSized(10001)
	// the comparisons in large
	const inside = 5000
	nat, big := constant("Nat"), app(constant("Big"), large)
	both := let("x", nat, large, app(constant("Big"), app(constant("add"), variable(0), variable(0))))
	grows := app(lam("x", 0, nat, app(constant("Eq", succ(zero(), 1)), nat, variable(0), variable(0))), large)
	plain := func(kind int, typ, value impl.Term) impl.Decl {
		return impl.Decl{Kind: kind, Name: "new", Type: typ, Value: value}
	}
	most := typedSized(impl.MaxNodes)
	for i, c := range []kernelCase{
		{plain(impl.KindAxiom, big, impl.Term{}), inside + 1, 0},
		{plain(impl.KindAxiom, both, impl.Term{}), inside + 1, impl.CodeSize},
		{plain(impl.KindDef, big, app(constant("any", succ(zero(), 1)), big)), (inside + 1) + (inside + 1 + 1) + 1, 0},
		{plain(impl.KindDef, nat, let("x", nat, large, app(constant("add"), variable(0), variable(0)))), inside + 1, impl.CodeSize},
		{plain(impl.KindDef, big, both), 2*inside + 2, impl.CodeSize},
		{plain(impl.KindDef, both, constant("nothing")), 0, impl.CodeConst},
		// in the last comparison: the type makes a step
		{plain(impl.KindDef, grows, constant("Unit.star")), (3 + inside + 1) + 1 + 1, impl.CodeSize},
		{plain(impl.KindTheorem, grows, constant("True.intro")), (3 + inside + 1) + 1 + 1, impl.CodeSize},
		// the value's own type makes its step first
		{plain(impl.KindDef, grows, read("[any{1} [[^ x 0 Nat Unit] two]]")), (3 + inside + 1) + 2 + 1 + 1 + 1, impl.CodeSize},
		{plain(impl.KindTheorem, both, constant("True.intro")), inside + 1, impl.CodeSize},
		{plain(impl.KindTheorem, big, both), inside + 1, impl.CodeProp},
		{withField(big), inside + 1, 0},
		{withField(both), inside + 1, impl.CodeSize},
		{plain(impl.KindDef, nat, most), 9995 + 4 + 1, 0},
		{plain(impl.KindDef, constant("Unit"), most), 9995 + 4 + 1, impl.CodeArg},
		{plain(impl.KindAxiom, most, impl.Term{}), 9995 + 4, impl.CodeSort},
		{plain(impl.KindDef, nat, app(constant("Nat.succ"), most)), 0, impl.CodeInput},
		{plain(impl.KindAxiom, app(constant("Big"), most), impl.Term{}), 0, impl.CodeInput},
	} {
		q := kernelAsk{d: c.d}
		for _, fuel := range []int{impl.MaxFuel, c.work} {
			q.hold(t, e, fuel, kernelAnswer{c.work, c.code})
		}
		if c.work > 0 {
			q.hold(t, e, c.work-1, kernelAnswer{c.work - 1, impl.CodeFuel})
		}
		if t.Failed() {
			t.Fatalf("case %d", i)
		}
	}
	kernelAsk{withField(big), true, 0}.hold(t, e, 0, kernelAnswer{})
	kernelAsk{withField(both), true, 0}.hold(t, e, 0, kernelAnswer{0, impl.CodeSize})
	kernelAsk{withField(pi("y", 0, both, constant("True"))), true, 0}.hold(t, e, 0, kernelAnswer{0, impl.CodeSize})
}

// Many great declarations: what one makes on the way is dropped ahead of the next.
func TestAddAllOfGreatDeclarations(t *testing.T) {
	t.Parallel()
	decls := []impl.Decl{natFamily()}
	for _, d := range stepEnv().Decls {
		if d.Name == "add" || d.Name == "Prod" || d.Name == "two" {
			decls = append(decls, d)
		}
	}
	front := len(decls)
	for i := range 60 {
		d := newDef("Nat", "two")
		d.Name = "d" + string(rune('a'+i%26)) + string(rune('a'+i/26))
		d.Value = typedSized(10001 + i)
		decls = append(decls, d)
	}
	e, at, code := impl.AddAll(decls, impl.MaxFuel)
	if code != 0 || len(e.Decls) != len(decls) || !impl.EnvOk(e) {
		t.Errorf("code %d at %d", code, at)
	}
	decls[front+50].Value = app(constant("Nat.succ"), decls[front+50].Value)
	decls[front+51].Value = app(constant("Nat.succ"), constant("Nat"))
	if _, at, code := impl.AddAll(decls, impl.MaxFuel); code != impl.CodeArg || at != front+51 {
		t.Errorf("code %d at %d", code, at)
	}
}
