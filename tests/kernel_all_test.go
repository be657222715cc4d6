package tests

import (
	"slices"
	"strconv"
	"testing"

	"loop.example/g00005/impl"
)

// slowAll adds one after the other.
func slowAll(decls []impl.Decl, fuel int) (impl.Env, int, int) {
	var e impl.Env
	if _, _, code := impl.Add(e, newAxiom("*1"), fuel); code == impl.CodeInput {
		return impl.Env{}, 0, code
	}
	for i, d := range decls {
		next, _, code := impl.Add(e, d, fuel)
		if code != 0 {
			return impl.Env{}, i, code
		}
		e = next
	}
	return e, 0, 0
}

// holdAll holds the position and the code, by both ways.
func holdAll(t *testing.T, what string, decls []impl.Decl, fuel, at, code int) {
	t.Helper()
	before := copyEnv(envOf(decls...))
	for way, all := range map[string]func([]impl.Decl, int) (impl.Env, int, int){"AddAll": impl.AddAll, "Add": slowAll} {
		e, gotAt, gotCode := all(decls, fuel)
		if gotAt != at || gotCode != code {
			t.Errorf("%s by %s, fuel %d: code %d at %d, not code %d at %d", what, way, fuel, gotCode, gotAt, code, at)
		}
		if code != 0 && len(e.Decls) != 0 || code == 0 && !equalEnvs(e, envOf(decls...)) {
			t.Errorf("%s by %s: %d declarations, or others", what, way, len(e.Decls))
		}
	}
	if !equalEnvs(before, envOf(decls...)) {
		t.Errorf("%s: the declarations were changed", what)
	}
}

func TestAddAll(t *testing.T) {
	holdAll(t, "none", nil, 0, 0, 0)
	holdAll(t, "none", []impl.Decl{}, impl.MaxFuel, 0, 0)
	all := claimEnv().Decls
	holdAll(t, "one", all[:1], 0, 0, 0)
	holdAll(t, "all", all, 1000, 0, 0)
	holdAll(t, "all", all, impl.MaxFuel, 0, 0)
	for _, fuel := range []int{-1, impl.MaxFuel + 1, -1 << 62, 1 << 62} {
		holdAll(t, "none", nil, fuel, 0, impl.CodeInput)
		holdAll(t, "all", all, fuel, 0, impl.CodeInput)
		holdAll(t, "what can't be added", []impl.Decl{newAxiom("nothing")}, fuel, 0, impl.CodeInput)
	}
	// the same fuel for each: the greatest work is enough, and not one less
	greatest, at := 0, 0
	for i, d := range all {
		if work := workInParts(t, envOf(all[:i]...), d); work > greatest {
			greatest, at = work, i
		}
	}
	holdAll(t, "all", all, greatest, 0, 0)
	holdAll(t, "all", all, greatest-1, at, impl.CodeFuel)
	holdAll(t, "all", all, 0, 3, impl.CodeFuel)
}

func TestAddAllRefuses(t *testing.T) {
	t.Parallel()
	all := claimEnv().Decls
	for _, c := range []struct {
		d    impl.Decl
		code int
	}{
		{impl.Decl{}, impl.CodeInput},
		{natFamily(), impl.CodeName},
		{all[len(all)-1], impl.CodeName},
		{quotients(), impl.CodeName},
		{newAxiom("nothing"), impl.CodeConst},
		{newAxiom("[. Nat 0 two]"), impl.CodeProj},
		{newAxiom("two"), impl.CodeSort},
		{newAxiom("[two two]"), impl.CodeFun},
		{newDef("Nat", "Nat"), impl.CodeArg},
		{newTheorem("Nat", "two"), impl.CodeProp},
		{family("F", "", 0, "two"), impl.CodeFamily},
		{family("F", "", 0, "*1", "c", "two"), impl.CodeCtor},
		{family("F", "", 0, "*1", "c", "[! x 0 [F two] F]"), impl.CodePositive},
		{family("F", "", 0, "*1", "c", "[! x 0 *1 F]"), impl.CodeUniverse},
	} {
		holdAll(t, "one too many", append(slices.Clone(all), c.d), 1000, len(all), c.code)
		// the first that is refused is told, not the others
		holdAll(t, "two too many", append(slices.Clone(all), c.d, newAxiom("[two two]"), natFamily()), 1000, len(all), c.code)
		holdAll(t, "two too many", append(slices.Clone(all), newTheorem("Nat", "two"), c.d), 1000, len(all), impl.CodeProp)
	}
	holdAll(t, "the quotients alone", []impl.Decl{quotients()}, 10, 0, impl.CodeQuot)
	holdAll(t, "the quotients in front", []impl.Decl{natFamily(), quotients(), eqFamily()}, 10, 1, impl.CodeQuot)
	holdAll(t, "the quotients behind", []impl.Decl{natFamily(), eqFamily(), quotients()}, 10, 0, 0)
	holdAll(t, "the other way round", []impl.Decl{newDef("Nat", "Nat.zero"), natFamily()}, 10, 0, impl.CodeConst)
	// a family is more than an axiom only behind its constructors
	pair := family("Pair", "", 0, "*1", "Pair.mk", "[! a 0 Nat [! b 0 Nat Pair]]")
	holdAll(t, "a projection", []impl.Decl{natFamily(), pair, newDef("[! p 0 Pair Nat]", "[^ p 0 Pair [. Pair 1 #0]]")}, 10, 0, 0)
	holdAll(t, "no projection", []impl.Decl{natFamily(), familyAxiom(pair), newDef("[! p 0 Pair Nat]", "[^ p 0 Pair [. Pair 1 #0]]")}, 10, 2, impl.CodeProj)
	holdAll(t, "a step", []impl.Decl{natFamily(), pair, eqFamily(), newTheorem(
		"[[[Eq{1} Nat] [. Pair 0 [[Pair.mk Nat.zero] [Nat.succ Nat.zero]]]] Nat.zero]", "[[Eq.refl{1} Nat] Nat.zero]")}, 100, 0, 0)
}

func TestAddAllOfVeryMany(t *testing.T) {
	most := manyAxioms(impl.MaxDecls)
	holdAll(t, "as many as there may be", most, 0, 0, 0)
	holdAll(t, "one more", append(most, newAxiom("*1")), 0, impl.MaxDecls, impl.CodeSize)
	holdAll(t, "one more, that has a code of its own", append(most, newAxiom("nothing")), 0, impl.MaxDecls, impl.CodeSize)
	holdAll(t, "one more, that is not shaped", append(most, impl.Decl{}), 0, impl.MaxDecls, impl.CodeInput)
	holdAll(t, "many more", append(slices.Clone(most), most...), 0, impl.MaxDecls, impl.CodeSize)
	most[5] = most[4]
	holdAll(t, "one twice", append(most, most...), 0, 5, impl.CodeName)
	// each hangs on the one in front
	chain := []impl.Decl{natFamily(), declared(impl.KindDef, "d0", "", "Nat", "Nat.zero")}
	for i := 2; i < impl.MaxDecls; i++ {
		d := copyDecl(chain[1])
		d.Name = "d" + strconv.Itoa(i-1)
		d.Value = app(constant("Nat.succ"), constant("d"+strconv.Itoa(i-2)))
		chain = append(chain, d)
	}
	holdAll(t, "a chain", chain, 2, 0, 0)
	e, _, _ := impl.AddAll(chain, 2)
	if got := impl.Height(e, "d298"); got != 299 {
		t.Errorf("height %d", got)
	}
}
