package tests

import (
	"testing"

	"loop.example/g00005/impl"
)

// workInParts adds up what the functions of the chapters in front count for the parts of
// a declaration that Add takes.
func workInParts(t *testing.T, e impl.Env, d impl.Decl) int {
	t.Helper()
	if d.Kind == impl.KindQuot {
		return 0
	}
	asType := func(e impl.Env, x impl.Term) int {
		typ, work, code, _ := impl.Infer(e, d.Params, nil, x, impl.MaxFuel)
		sort, more, other := impl.Whnf(e, typ, true, impl.MaxFuel)
		if code != 0 || other != 0 || len(sort.Nodes) != 1 || sort.Nodes[0].K != impl.TermSort {
			t.Errorf("%s: %s is no type", d.Name, short(written(x)))
		}
		return work + more
	}
	work := asType(e, d.Type)
	if len(d.Value.Nodes) > 0 {
		more, code, _ := impl.Check(e, d.Params, nil, d.Value, d.Type, impl.MaxFuel)
		if code != 0 {
			t.Errorf("%s: the value has code %d", d.Name, code)
		}
		work += more
	}
	for i, c := range d.Ctors {
		more, code := impl.Universe(e, d, i, impl.MaxFuel)
		if code != 0 {
			t.Errorf("%s: constructor %d has code %d", d.Name, i, code)
		}
		work += asType(behind(e, familyAxiom(d)), c.Type) + more
	}
	return work
}

// The works of all parts add up, and one fuel is for all of them.
func TestOneFuel(t *testing.T) {
	t.Parallel()
	all := claimEnv().Decls
	greatest := 0
	for i, d := range all {
		k := slowKernelOn(envOf(all[:i]...))
		work := workInParts(t, k.e, d)
		greatest = max(greatest, work)
		kernelAsk{d: d}.holdEveryFuel(t, k, kernelAnswer{work, 0})
	}
	if greatest < 10 {
		t.Errorf("no declaration takes more work than %d", greatest)
	}
}

// The fuel runs out in the type, in the value, while the types are compared, in
// each constructor and in each universe: all but the last bit is never enough.
func TestFuelRunsOutEverywhere(t *testing.T) {
	e := claimEnv()
	k := slowKernelOn(e)
	long := "[[add [[add four] four]] [[add four] four]]"
	for _, c := range []kernelCase{
		{newAxiom("[[[Eq{1} Nat] two] " + long + "]"), 9, 0},
		{newDef("[[Vec{1} Nat] [[add two] two]]", "[any{2} [[Vec{1} Nat] four]]"), 4 + 3 + 4, 0},
		{newTheorem("[[[Eq{1} Nat] [Nat.succ [Nat.succ two]]] four]", "[[Eq.refl{1} Nat] four]"), 25, 0},
		{family("F", "", 0, "[! n 0 [fam two] *1]", "a", "[! x 0 set [! y 0 [fam two] [F #0]]]", "b", "[! x 0 [fam two] [! h 0 [F #0] [F #1]]]"), 3 + (1 + 3 + 1) + (1 + 2) + (3 + 1 + 1) + 2, 0},
		// another code: with less fuel it is not there yet
		{newDef("[! x 0 set Nat]", "[^ x 0 set [two two]]"), 2, impl.CodeFun},
		{newDef("[! x 0 set Nat]", "[^ x 0 set Unit.star]"), 5, impl.CodeArg},
		{family("F", "", 0, "[! n 0 set *1]", "a", "[! x 0 set [F #0]]", "b", "[! x 0 set [! y 0 *1 [F #1]]]"), 1 + 2 + 1 + 2 + 1, impl.CodeUniverse},
	} {
		kernelAsk{d: c.d}.holdEveryFuel(t, k, kernelAnswer{c.work, c.code})
	}
	// terms without end take any fuel, and no time
	loop := behind(e, declared(impl.KindAxiom, "ever", "", omega, ""))
	for _, fuel := range []int{0, 1, 7, 1000, impl.MaxFuel} {
		for _, d := range []impl.Decl{newAxiom("[ever two]"), newDef("Nat", "ever"), family("F", "", 0, "*1", "c", "[! x 0 ever F]"), newTheorem("True", "ever")} {
			kernelAsk{d: d}.hold(t, loop, fuel, kernelAnswer{fuel, impl.CodeFuel})
		}
		kernelAsk{family("F", "", 0, "*1", "c", "[! x 0 [ever two] F]"), true, 0}.hold(t, loop, fuel, kernelAnswer{fuel, impl.CodeFuel})
	}
}
