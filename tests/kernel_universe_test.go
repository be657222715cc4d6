package tests

import (
	"strings"
	"testing"

	"loop.example/g00005/impl"
)

// universeCase is a family with the constructor that is asked for.
type universeCase struct {
	d          impl.Decl
	ctor       int
	work, code int
}

func holdUniverseCases(t *testing.T, e impl.Env, cases []universeCase) {
	t.Helper()
	k := slowKernelOn(e)
	for _, c := range cases {
		kernelAsk{c.d, true, c.ctor}.holdEveryFuel(t, k, kernelAnswer{c.work, c.code})
	}
}

// inSort is a family in a universe, with one constructor that has these fields.
func inSort(params, sort string, fields ...string) impl.Decl {
	own := "F"
	if params != "" {
		own += "{" + strings.ReplaceAll(params, " ", ",") + "}"
	}
	typ := own
	for i := range fields {
		typ = "[! x 0 " + fields[len(fields)-1-i] + " " + typ + "]"
	}
	return family("F", params, 0, sort, "F.mk", typ)
}

func TestUniverse(t *testing.T) {
	t.Parallel()
	too := impl.CodeUniverse
	holdUniverseCases(t, claimEnv(), []universeCase{
		// no field, and the family itself
		{inSort("", "*1"), 0, 0, 0},
		{inSort("", "*1", "F"), 0, 0, 0},
		{inSort("", "*1", "[! n 0 Nat F]"), 0, 0, 0},
		{inSort("", "*1", "[! n 0 *0 F]"), 0, 0, 0},
		{inSort("", "*1", "[! n 0 *1 F]"), 0, 0, too},
		// below, at and above
		{inSort("", "*3", "*1"), 0, 0, 0},
		{inSort("", "*2", "*1"), 0, 0, 0},
		{inSort("", "*1", "*1"), 0, 0, too},
		{inSort("", "*2", "*2"), 0, 0, too},
		{inSort("", "*1", "Nat"), 0, 0, 0},
		{inSort("", "*1", "True"), 0, 0, 0},
		{inSort("", "*1", "*0", "#0"), 0, 0, 0},
		{inSort("", "*2", "*1", "#0"), 0, 0, 0},
		{inSort("", "*1", "[! x 0 *1 Nat]"), 0, 0, too},
		{inSort("", "*1", "[! x 0 *1 True]"), 0, 0, 0},
		{inSort("", "*2", "[! x 0 Nat *1]"), 0, 0, 0},
		{inSort("", "*1", "[! x 0 Nat *0]"), 0, 0, 0},
		// the first that is too great: what stands behind is not looked at
		{inSort("", "*1", "set", "*1", "set"), 0, 1, too},
		{inSort("", "*1", "*1", "set"), 0, 0, too},
		{inSort("", "*1", "*1", "two"), 0, 0, too},
		{inSort("", "*1", "Nat", "[fam #0]", "set", "*1"), 0, 3, too},
		{inSort("", "*1", "set", "claim", "#0"), 0, 2, impl.CodeSort},
		// in Prop anything may be a field
		{inSort("", "*0", "*5"), 0, 0, 0},
		{inSort("u", "*0", "*u", "#0"), 0, 0, 0},
		{inSort("u", "*imax(u,0)", "*u+3"), 0, 0, 0},
		{inSort("", "*0", "set"), 0, 0, 0},
		{inSort("", "*0", "two"), 0, 0, 0},
		{inSort("", "*0", "[two two]"), 0, 0, 0},
		// levels with parameters
		{inSort("u", "*u+1", "*u"), 0, 0, 0},
		{inSort("u", "*u+2", "*u"), 0, 0, 0},
		{inSort("u", "*u+1", "*u+1"), 0, 0, too},
		{inSort("u", "*u+1", "*0"), 0, 0, 0},
		{inSort("u", "*u+1", "Nat"), 0, 0, 0},
		{inSort("u", "*u+1", "*1"), 0, 0, too},
		{inSort("u v", "*u+1", "*v"), 0, 0, too},
		{inSort("u v", "*max(u,v)+1", "*v", "*u"), 0, 0, 0},
		{inSort("u v", "*max(u,v)+1", "*max(v,u)"), 0, 0, 0},
		{inSort("u v", "*max(u,v)+1", "*imax(u,v)"), 0, 0, 0},
		{inSort("u v", "*imax(u,v)+1", "*imax(u,v)"), 0, 0, 0},
		{inSort("u v", "*imax(u,v)+1", "*max(u,v)"), 0, 0, too},
		{inSort("u v", "*imax(u,v)+1", "*v"), 0, 0, 0},
		{inSort("u v", "*imax(u,v)+1", "*u"), 0, 0, too},
		{inSort("u v", "*imax(u,v+1)", "*v"), 0, 0, 0},
		{inSort("u v", "*imax(u+1,v+1)", "*u", "*v"), 0, 0, 0},
		{inSort("u", "*max(1,u)", "Nat"), 0, 0, 0},
		{inSort("u", "*max(1,u)", "[any{u+1} *u]"), 0, 0, 0},
		{inSort("u", "*max(1,u)", "*u"), 0, 0, too},
		{inSort("u", "*max(u,1)", "[! x 0 Nat [any{u+1} *u]]"), 0, 0, 0},
		{inSort("u", "*max(u,1)", "[! x 0 *0 [any{u+1} *u]]"), 0, 0, 0},
		{inSort("u", "*max(u,1)", "[! x 0 *1 [any{u+1} *u]]"), 0, 0, too},
		{inSort("u v", "*max(u,1)", "[! x 0 [any{v+1} *v] [any{u+1} *u]]"), 0, 0, too},
		// types that are some behind a step
		{inSort("", "*1", "set"), 0, 1, 0},
		{inSort("", "*1", "claim"), 0, 1, 0},
		{inSort("", "*1", "[fam two]", "[fam two]"), 0, 4, 0},
		{inSort("", "*1", "Set"), 0, 0, too},
		{inSort("", "*2", "Set", "#0"), 0, 1, 0},
		// no types
		{inSort("", "*1", "two"), 0, 0, impl.CodeSort},
		{inSort("", "*1", "fun"), 0, 1, impl.CodeSort},
		{inSort("", "*1", "Nat", "#0"), 0, 0, impl.CodeSort},
		{inSort("", "*1", "[two two]"), 0, 0, impl.CodeFun},
		{inSort("", "*1", "[. Prod 0 two]"), 0, 0, impl.CodeProj},
		// types are found, not checked
		{inSort("", "*1", "[Nat.succ Nat]"), 0, 0, impl.CodeSort},
		{inSort("", "*1", "[fam Nat]"), 0, 2, 0},
		{inSort("", "*1", "[= X *0 Nat #0]"), 0, 0, 0},
	})
}

// Parameters and indices are not looked at, nor are the family's type and the
// other constructors.
func TestUniverseOfOneConstructor(t *testing.T) {
	big := family("F", "u", 2, "[! A 0 *u+7 [! B 0 *u+9 [! n 0 *u *u+1]]]",
		"a", "[! A 0 *u+7 [! B 0 *u+9 [[[F{u} #1] #0] [any{u+1} *u]]]]",
		"b", "[! A 0 *u+7 [! B 0 *u+9 [! x 0 *u [[[F{u} #2] #1] #0]]]]",
		"c", "[! A 0 *u+7 [! B 0 *u+9 [! x 0 #1 [[[F{u} #2] #1] [any{u+1} *u]]]]]",
		"d", "[! A 0 *u+7 [! B 0 *u+9 [! x 0 *u [! y 0 [[[F{u} #2] #1] #0] [[[F{u} #3] #2] #1]]]]]",
		"e", "[! A 0 *u+7 [! B 0 *u+9 [! x 0 *u [! y 0 #2 [[[F{u} #3] #2] #1]]]]]",
	)
	several := family("F", "", 0, "[! x 0 two *1]", "a", "[! x 0 *1 [F two]]", "b", "[F [two two]]", "c", "[! x 0 set [F Nat]]", "d", "[! x 0 two [F two]]")
	holdUniverseCases(t, claimEnv(), []universeCase{
		{big, 0, 0, 0},
		{big, 1, 0, 0},
		{big, 2, 0, impl.CodeUniverse},
		{big, 3, 0, 0},
		{big, 4, 0, impl.CodeUniverse},
		{big, -1, 0, impl.CodeInput},
		{big, 5, 0, impl.CodeInput},
		{big, 1 << 62, 0, impl.CodeInput},
		{big, -1 << 63, 0, impl.CodeInput},
		{several, 0, 0, impl.CodeUniverse},
		{several, 1, 0, 0},
		{several, 2, 1, 0},
		{several, 3, 0, impl.CodeSort},
		{several, 4, 0, impl.CodeInput},
		{listFamily(), 0, 0, impl.CodeInput},
		{family("F", "", 0, "*1"), 0, 0, impl.CodeInput},
		{family("F", "", 0, "*1"), -1, 0, impl.CodeInput},
		{family("F", "", 0, "*0"), 0, 0, impl.CodeInput},
	})
}

func TestUniverseOfWrongFamilies(t *testing.T) {
	e := claimEnv()
	mk := func(ctors ...string) impl.Decl {
		return family("F", "", 0, "*1", append([]string{"F.mk", "F"}, ctors...)...)
	}
	for what, d := range map[string]impl.Decl{
		"no family":                      newAxiom("*1"),
		"a definition":                   newDef("Nat", "two"),
		"the quotients":                  quotients(),
		"nothing":                        {},
		"no sort":                        family("F", "", 0, "two", "F.mk", "F"),
		"a sort that may be 0":           family("F", "u", 0, "*u", "F.mk", "F{u}"),
		"another constructor":            mk("c", "Nat"),
		"a wrong place":                  mk("c", "[! f 0 [! x 0 F Nat] F]"),
		"a name that is taken":           family("Nat", "", 0, "*1", "c", "Nat"),
		"a constructor that is taken":    mk("two", "F"),
		"a constant that is not there":   mk("c", "[! x 0 nothing F]"),
		"other levels":                   mk("c", "[! x 0 id F]"),
		"a projection that is not there": mk("c", "[! x 0 [. Nat 0 two] F]"),
		"the same in the type":           family("F", "", 0, "[! x 0 [. Nat 0 two] *1]", "c", "[F two]"),
		"a constant in the type":         family("F", "", 0, "[! x 0 nothing *1]", "c", "[F two]"),
		"one of its own constructors":    mk("c", "[! x 0 [fam F.mk] F]"),
	} {
		kernelAsk{d, true, 0}.holdInput(t, what, e)
	}
	kernelAsk{mk(), true, 0}.holdInput(t, "a recursor that is taken", behind(e, declared(impl.KindAxiom, "F.rec", "", "Nat", "")))
	kernelAsk{mk(), true, 0}.holdEveryFuel(t, slowKernelOn(e), kernelAnswer{})
}

// A full environment has no room for the family, but the fields can be looked at.
func TestUniverseInFullEnvironments(t *testing.T) {
	full := envOf(append(manyAxioms(impl.MaxDecls-1), declared(impl.KindDef, "set", "", "*2", "*1"))...)
	kernelAsk{inSort("", "*1", "a0"), true, 0}.hold(t, full, 10, kernelAnswer{0, 0})
	kernelAsk{inSort("", "*1", "*1"), true, 0}.hold(t, full, 10, kernelAnswer{0, impl.CodeUniverse})
	kernelAsk{inSort("", "*1", "[! x 0 set #0]"), true, 0}.hold(t, full, 10, kernelAnswer{1, impl.CodeUniverse})
	kernelAsk{inSort("", "*1", "a0"), true, 1}.holdInput(t, "no such constructor", full)
	kernelAsk{family("a0", "", 0, "*1", "c", "a0"), true, 0}.holdInput(t, "a taken name", full)
}

// A constructor may have more fields than a context has types.
func TestUniverseOfManyFields(t *testing.T) {
	var fields []string
	for range impl.MaxCtx + 30 {
		fields = append(fields, "*0")
	}
	e := claimEnv()
	kernelAsk{inSort("", "*1", append(fields, "#229", "#230")...), true, 0}.hold(t, e, 0, kernelAnswer{})
	kernelAsk{inSort("", "*1", append(fields, "set", "#0")...), true, 0}.hold(t, e, 10, kernelAnswer{1, impl.CodeSort})
	kernelAsk{inSort("", "*1", append(fields, "*1", "#0")...), true, 0}.hold(t, e, 10, kernelAnswer{0, impl.CodeUniverse})
	fields = nil
	for range 4000 {
		fields = append(fields, "*0")
	}
	kernelAsk{inSort("", "*1", append(fields, "#3999")...), true, 0}.hold(t, e, 10, kernelAnswer{})
}
