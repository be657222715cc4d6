package tests

import (
	"testing"

	"loop.example/g00005/impl"
)

// claimEnv has more than kernelEnv: a proposition that is one by a step only, and
// proofs.
func claimEnv() impl.Env {
	return behind(kernelEnv(),
		declared(impl.KindDef, "Claim", "", "*1", "*0"),
		declared(impl.KindAxiom, "claim", "", "Claim", ""),
		declared(impl.KindAxiom, "proof", "", "claim", ""),
		declared(impl.KindAxiom, "other", "", "claim", ""),
	)
}

func TestAddAxioms(t *testing.T) {
	holdKernelCases(t, claimEnv(), []kernelCase{
		{newAxiom("Nat"), 0, 0},
		{newAxiom("*0"), 0, 0},
		{newAxiom("*7"), 0, 0},
		{newAxiom("[! n 0 Nat *0]"), 0, 0},
		{declared(impl.KindAxiom, "new", "u", "*u", ""), 0, 0},
		{declared(impl.KindAxiom, "new", "u v w", "*u", ""), 0, 0},
		{declared(impl.KindAxiom, "new.of.a.long.name", "", "Nat", ""), 0, 0},
		{declared(impl.KindAxiom, "Nat.other", "", "Nat", ""), 0, 0},
		{declared(impl.KindAxiom, "v w", "v w", "Nat", ""), 0, impl.CodeInput},
		{declared(impl.KindAxiom, "new", "v w", "[! A 0 *max(v,w) [! B 1 *imax(v,w) [! x 2 #1 *w+1]]]", ""), 0, 0},
		// a comparison for each argument
		{newAxiom("[[id{2} *1] Nat]"), 2, 0},
		{newAxiom("[[[Eq{1} Nat] two] four]"), 3, 0},
		{newAxiom("[pow two]"), 1, 0},
		// its type is a TermSort behind a step
		{newAxiom("set"), 1, 0},
		{newAxiom("claim"), 1, 0},
		{newAxiom("[! x 0 set claim]"), 2, 0},
		// a step to a TermPi, a comparison, and a step to a TermSort
		{newAxiom("[fam two]"), 3, 0},
		{newAxiom("[= X *1 Nat #0]"), 1, 0},
		{newAxiom("[= X *1 Nat [! x 0 #0 #1]]"), 1, 0},
		{newAxiom("[. Prod 0 [[[[Prod.mk{1,0} *1] Nat] Nat] two]]"), 4, 0},
		// no types
		{newAxiom("two"), 0, impl.CodeSort},
		{newAxiom("Nat.succ"), 0, impl.CodeSort},
		{newAxiom("easy"), 0, impl.CodeSort},
		{newAxiom("proof"), 0, impl.CodeSort},
		{newAxiom("fun"), 1, impl.CodeSort},
		{newAxiom("slow"), 4, impl.CodeSort},
		{newAxiom("[^ x 0 Nat Nat]"), 0, impl.CodeSort},
		{newAxiom("[Prod{0,0} Nat]"), 1, impl.CodeSort},
		{newAxiom("Eq.refl{0}"), 0, impl.CodeSort},
		// codes of Infer
		{newAxiom("[two two]"), 0, impl.CodeFun},
		{newAxiom("[! x 0 two Nat]"), 0, impl.CodeSort},
		{newAxiom("[! x 0 Nat #0]"), 0, impl.CodeSort},
		{newAxiom("[! x 0 set #0]"), 1, impl.CodeSort},
		{newAxiom("[Nat.succ Nat]"), 1, impl.CodeArg},
		{newAxiom("[! x 0 [pow two] [fam #0]]"), 8, impl.CodeArg},
		{newAxiom("[= X *0 Nat #0]"), 1, impl.CodeArg},
		{newAxiom("[= X *1 Nat two]"), 1, impl.CodeSort},
		{newAxiom("[. Prod 0 two]"), 0, impl.CodeProj},
		{newAxiom("[. Prod 1 fun]"), 1, impl.CodeProj},
	})
}

func TestAddDefinitions(t *testing.T) {
	holdKernelCases(t, claimEnv(), []kernelCase{
		{newDef("Nat", "two"), 1, 0},
		{newDef("Nat", "[Nat.succ two]"), 2, 0},
		{newDef("*1", "Nat"), 1, 0},
		{newDef("*0", "True"), 1, 0},
		{newDef("*2", "*1"), 1, 0},
		{newDef("True", "True.intro"), 1, 0},
		{newDef("claim", "proof"), 2, 0},
		{declared(impl.KindDef, "new", "u", "[! A 1 *u [! a 0 #0 #1]]", "[^ B 2 *u [^ b 1 #0 #0]]"), 1, 0},
		{declared(impl.KindDef, "new", "u", "[! A 1 *u [! a 0 #0 #1]]", "id{u}"), 1, 0},
		{declared(impl.KindDef, "new", "u v", "*max(u,v)+1", "*max(v,u)"), 1, 0},
		// the same type otherwise: behind steps
		{newDef("Fun", "[^ x 0 Nat #0]"), 2, 0},
		{newDef("[! x 0 Nat Nat]", "fun"), 2, 0},
		{newDef("[[id{2} *1] Nat]", "two"), 6, 0},
		{newDef("[[Vec{1} Nat] four]", "[any{2} [[Vec{1} Nat] [Nat.succ three]]]"), 24, 0},
		{newDef("[= X *1 Nat #0]", "two"), 3, 0},
		// a code within
		{newDef("Nat", "[Nat.succ Unit.star]"), 1, impl.CodeArg},
		{newDef("Nat", "[two two]"), 0, impl.CodeFun},
		{newDef("[! x 0 Nat Nat]", "[^ x 0 Nat [#0 #0]]"), 0, impl.CodeFun},
		{newDef("[! x 0 Nat Nat]", "[^ x 0 two #0]"), 0, impl.CodeSort},
		{newDef("Nat", "[. Prod 0 two]"), 0, impl.CodeProj},
		// of another type
		{newDef("Nat", "Unit.star"), 1, impl.CodeArg},
		{newDef("Nat", "Nat"), 1, impl.CodeArg},
		{newDef("*0", "*0"), 1, impl.CodeArg},
		{newDef("*2", "Nat"), 1, impl.CodeArg},
		{newDef("[! x 0 Nat Nat]", "[^ x 0 Unit two]"), 2, impl.CodeArg},
		{newDef("Nat", "[^ x 0 Nat two]"), 1, impl.CodeArg},
		{newDef("[[Vec{1} Nat] three]", "[any{2} [[Vec{1} Nat] two]]"), 13, impl.CodeArg},
		{newDef("True", "proof"), 1, impl.CodeArg},
		{declared(impl.KindDef, "new", "u", "*u+1", "*0"), 1, impl.CodeArg},
		{declared(impl.KindDef, "new", "u v", "*u+1", "*v"), 1, impl.CodeArg},
		{newDef("Nat", "[False.rec{1} [^ t 0 False Nat]]"), 2, impl.CodeArg},
		// the type first
		{newDef("two", "[two two]"), 0, impl.CodeSort},
		{newDef("two", "two"), 0, impl.CodeSort},
		{newDef("[two two]", "[Nat.succ Nat]"), 0, impl.CodeFun},
		{newDef("[Nat.succ Nat]", "[two two]"), 1, impl.CodeArg},
	})
}

func TestAddTheorems(t *testing.T) {
	holdKernelCases(t, claimEnv(), []kernelCase{
		{newTheorem("True", "True.intro"), 1, 0},
		{newTheorem("claim", "proof"), 2, 0},
		{newTheorem("claim", "[[^ p 0 claim #0] other]"), 4, 0},
		{newTheorem("[[[Eq{1} Nat] two] two]", "[[Eq.refl{1} Nat] two]"), 6, 0},
		{newTheorem("[! x 0 Nat True]", "[^ x 0 Nat True.intro]"), 1, 0},
		{newTheorem("[! p 0 True True]", "[^ q 0 True #0]"), 1, 0},
		{newTheorem("[! p 0 False Nat]", "[^ p 0 False two]"), 0, impl.CodeProp},
		{newTheorem("[! p 0 Nat False]", "[^ p 0 Nat two]"), 3, impl.CodeArg},
		{declared(impl.KindTheorem, "new", "u", "[! A 0 *u True]", "[^ A 0 *u True.intro]"), 1, 0},
		{declared(impl.KindTheorem, "new", "u", "[! A 0 *u [! a 0 #0 [[[Eq{u} #1] #0] #0]]]", "Eq.refl{u}"), 4, 0},
		{declared(impl.KindTheorem, "new", "u", "[! A 0 *imax(u,0) [! a 0 #0 #1]]", "[^ A 0 *imax(u,0) [^ a 0 #0 #0]]"), 1, 0},
		// no propositions
		{newTheorem("Nat", "two"), 0, impl.CodeProp},
		{newTheorem("*0", "True"), 0, impl.CodeProp},
		{newTheorem("set", "[any{1} set]"), 1, impl.CodeProp},
		{newTheorem("[! x 0 True Nat]", "[^ x 0 True two]"), 0, impl.CodeProp},
		{declared(impl.KindTheorem, "new", "u", "[! A 0 *u [! a 0 #0 #1]]", "[^ A 0 *u [^ a 0 #0 #0]]"), 0, impl.CodeProp},
		{declared(impl.KindTheorem, "new", "u", "[! A 0 *u *0]", "[^ A 0 *u True]"), 0, impl.CodeProp},
		// that it is a type comes first, and the value last
		{newTheorem("two", "[two two]"), 0, impl.CodeSort},
		{newTheorem("[two two]", "two"), 0, impl.CodeFun},
		{newTheorem("Nat", "[two two]"), 0, impl.CodeProp},
		{newTheorem("Nat", "Unit.star"), 0, impl.CodeProp},
		{newTheorem("True", "[two two]"), 0, impl.CodeFun},
		// what is proved is another thing
		{newTheorem("True", "two"), 1, impl.CodeArg},
		{newTheorem("[[[Eq{1} Nat] two] Nat.zero]", "[[Eq.refl{1} Nat] two]"), 10, impl.CodeArg},
		{newTheorem("[[[Eq{1} Nat] two] deuce]", "[[Eq.refl{1} Nat] two]"), 10, 0},
		{newTheorem("False", "proof"), 1, impl.CodeArg},
	})
}

func TestAddQuotients(t *testing.T) {
	e := stepEnv()
	// without the quotients
	e.Decls = append(e.Decls[:8:8], e.Decls[9:]...)
	holdKernelCases(t, e, []kernelCase{{quotients(), 0, 0}})
	holdKernelCases(t, envOf(eqFamily()), []kernelCase{{quotients(), 0, 0}})
	holdKernelCases(t, envOf(natFamily(), family("Eq", "u", 2, "[! B 1 *u [! x 2 #0 [! y 1 #1 *0]]]", "Eq.refl", "[! B 2 *u [! x 1 #0 [[[Eq{u} #1] #0] #0]]]")), []kernelCase{{quotients(), 0, 0}})
	for _, front := range []impl.Env{
		{},
		envOf(natFamily()),
		envOf(declared(impl.KindAxiom, "Eq", "u", eqType, "")),
		envOf(declared(impl.KindDef, "Eq", "u", "[! A 0 *u [! a 0 #0 [! b 0 #1 *1]]]", "[^ A 0 *u [^ a 0 #0 [^ b 0 #1 *0]]]")),
		envOf(family("Eq", "w", 2, "[! A 0 *w [! a 0 #0 [! b 0 #1 *0]]]", "Eq.refl", "[! A 0 *w [! a 0 #0 [[[Eq{w} #1] #0] #0]]]")),
		envOf(family("Eq", "u", 1, eqType, "Eq.refl", eqRefl)),
		envOf(family("Eq", "u", 2, eqType)),
		envOf(family("Eq", "u", 2, eqType, "Eq.same", eqRefl)),
		envOf(family("Eq", "u", 2, eqType, "Eq.refl", eqRefl, "Eq.more", eqRefl)),
		envOf(family("Eq", "u", 2, "[! A 0 *u [! a 0 #0 [! b 0 #1 *1]]]", "Eq.refl", eqRefl)),
		envOf(family("Equal", "u", 2, eqType, "Equal.refl", "[! A 0 *u [! a 0 #0 [[[Equal{u} #1] #0] #0]]]")),
	} {
		holdKernelCases(t, front, []kernelCase{{quotients(), 0, impl.CodeQuot}})
	}
	holdKernelCases(t, envOf(eqFamily()), []kernelCase{
		{impl.Decl{Kind: impl.KindQuot, Name: "Quot", Params: []string{"u"}}, 0, impl.CodeInput},
		{impl.Decl{Kind: impl.KindQuot, Name: "Quots"}, 0, impl.CodeInput},
		{impl.Decl{Kind: impl.KindQuot, Name: "Quot", Type: prop()}, 0, impl.CodeInput},
	})
}

func TestAddFamilies(t *testing.T) {
	holdKernelCases(t, claimEnv(), []kernelCase{
		{family("F", "", 0, "*1"), 0, 0},
		{family("F", "", 0, "*0"), 0, 0},
		{family("F", "", 0, "*1", "c", "F"), 0, 0},
		{family("F", "", 0, "*1", "c", "F", "d", "[! x 0 F [! y 0 F F]]"), 0, 0},
		{family("F", "u", 1, "[! A 0 *u+1 *u+1]", "F.nil", "[! A 1 *u+1 [F{u} #0]]", "F.cons", "[! A 1 *u+1 [! h 0 #0 [! t 0 [F{u} #1] [F{u} #2]]]]"), 3, 0},
		{family("F", "", 0, "*1", "c", "[! f 0 [! n 0 Nat F] F]"), 0, 0},
		{family("F", "", 0, "[! n 0 Nat *1]", "c", "[F two]", "d", "[! n 0 Nat [! x 0 [F #0] [F [Nat.succ #1]]]]"), 1 + 3, 0},
		{family("F", "", 1, "[! n 0 Nat *0]", "c", "[! n 0 Nat [! m 0 Nat [F #1]]]"), 1, 0},
		// fields that are types behind a step, once for the constructor and once for
		// its universe, which compares nothing
		{family("F", "", 0, "*1", "c", "[! x 0 set F]"), 1 + 1, 0},
		{family("F", "", 0, "*1", "c", "[! x 0 [fam two] [! y 0 claim F]]"), 3 + 1 + 2 + 1, 0},
		{family("F", "", 0, "*1", "c", "[! x 0 [[id{2} *1] Nat] F]"), 2, 0},
		// the type
		{family("F", "", 0, "[! x 0 two *1]"), 0, impl.CodeSort},
		{family("F", "", 0, "[! x 0 [Nat.succ Nat] *1]"), 1, impl.CodeArg},
		{family("F", "", 0, "[! x 0 [two two] *1]"), 0, impl.CodeFun},
		{family("F", "", 1, "[! x 0 [. Prod 0 two] *1]"), 0, impl.CodeProj},
		// a constructor's type
		{family("F", "", 0, "*1", "c", "[! x 0 two F]"), 0, impl.CodeSort},
		{family("F", "", 0, "*1", "c", "[! x 0 [two two] F]"), 0, impl.CodeFun},
		{family("F", "", 0, "[! n 0 Nat *1]", "c", "[F Nat]"), 1, impl.CodeArg},
		{family("F", "", 0, "[! n 0 Nat *1]", "c", "[! x 0 [F two] [F [Nat.succ Unit.star]]]"), 2, impl.CodeArg},
		{family("F", "", 0, "*1", "c", "[! x 0 [. Prod 0 fun] F]"), 1, impl.CodeProj},
		{family("F", "", 0, "*0", "c", "[! x 0 [Prod{0,0} Nat] F]"), 1, impl.CodeSort},
		// the family has neither constructors nor a recursor yet, nor projections
		{family("F", "", 0, "*1", "c", "F", "d", "[! x 0 [[[Eq{1} Nat] two] c] F]"), 0, impl.CodeConst},
		{family("F", "", 0, "*1", "c", "[! x 0 [F.rec{1} two] F]"), 0, impl.CodeConst},
		{family("F", "", 0, "*1", "c", "[! x 0 Nat F]", "d", "[! x 0 [. F 0 two] F]"), 0, impl.CodePositive},
		// one constructor behind the other
		{family("F", "", 0, "*1", "c", "[! x 0 set F]", "d", "[! x 0 two F]"), 2, impl.CodeSort},
		{family("F", "", 0, "*1", "c", "[! x 0 set F]", "d", "[! x 0 [Nat.succ Nat] F]", "e", "[! x 0 two F]"), 3, impl.CodeArg},
		{family("F", "", 0, "*1", "c", "[! x 0 *1 F]", "d", "[! x 0 two F]"), 0, impl.CodeUniverse},
		{family("F", "", 0, "*1", "c", "[! x 0 two F]", "d", "[! x 0 *1 F]"), 0, impl.CodeSort},
		{family("F", "", 0, "*1", "c", "[! x 0 set F]", "d", "[! x 0 *1 F]", "e", "[! x 0 two F]"), 2, impl.CodeUniverse},
		// a constructor's type is looked at as a whole ahead of its fields
		{family("F", "", 0, "*1", "c", "[! x 0 *1 [! y 0 two F]]"), 0, impl.CodeSort},
		{family("F", "", 0, "*1", "c", "[! x 0 *1 [! y 0 [Nat.succ Nat] F]]"), 1, impl.CodeArg},
		// the form comes first of all
		{family("F", "", 0, "two", "c", "F"), 0, impl.CodeFamily},
		{family("F", "u", 0, "*u", "c", "F{u}"), 0, impl.CodeFamily},
		{family("F", "", 1, "*1", "c", "F"), 0, impl.CodeFamily},
		{family("F", "", 0, "[! x 0 F *1]"), 0, impl.CodeFamily},
		{family("F", "", 0, "[! x 0 [. F 0 two] *1]"), 0, impl.CodeFamily},
		{family("F", "", 0, "set"), 0, impl.CodeFamily},
		{family("F", "", 0, "Set"), 0, impl.CodeFamily},
		{family("F", "", 0, "*1", "c", "Nat"), 0, impl.CodeCtor},
		{family("F", "", 0, "*1", "c", "[! x 0 F two]"), 0, impl.CodeCtor},
		{family("F", "u", 0, "*1", "c", "F"), 0, impl.CodeCtor},
		{family("F", "u", 0, "*1", "c", "F{0}"), 0, impl.CodeCtor},
		{family("F", "u", 0, "*1", "c", "F{u,u}"), 0, impl.CodeCtor},
		{family("F", "u", 0, "*1", "c", "[! x 0 F{u} F{u}]"), 0, 0},
		{family("F", "u", 0, "*1", "c", "[! x 0 F F{u}]"), 0, impl.CodePositive},
		{family("F", "u", 0, "*1", "c", "[! x 0 F{u+1} F{u}]"), 0, impl.CodePositive},
		{family("F", "", 0, "*1", "c", "[! f 0 [! x 0 F Nat] F]"), 0, impl.CodePositive},
		{family("F", "", 0, "*1", "c", "[! x 0 [. F 0 two] F]"), 0, impl.CodePositive},
		{family("F", "", 0, "[! n 0 Nat *1]", "c", "[F [. F 0 two]]"), 0, impl.CodeCtor},
	})
}

// New names are found, of the kinds and types that they have.
func TestAddedNamesAreFound(t *testing.T) {
	e := envOf(natFamily(), eqFamily())
	for _, d := range append(formedFamilies()[1:9],
		newAxiom("Nat"), newDef("Nat", "Nat.zero"), newTheorem("[[[Eq{1} Nat] Nat.zero] Nat.zero]", "[[Eq.refl{1} Nat] Nat.zero]"), quotients(),
		declared(impl.KindDef, "newer", "", "Nat", "[Nat.succ new]"),
	) {
		if d.Kind == impl.KindDef || d.Kind == impl.KindTheorem {
			d.Name += "s"
		}
		if d.Name == "newers" {
			d.Value = read("[Nat.succ news]")
		}
		if d.Kind == impl.KindTheorem {
			d.Name = "proved"
		}
		next, _, code := impl.Add(e, d, 1000)
		if code != 0 {
			t.Errorf("%s: code %d", d.Name, code)
			continue
		}
		for _, name := range impl.NamesOf(d) {
			if _, ok := impl.Find(e, name); ok {
				t.Errorf("%s was there", name)
			}
			if info, ok := impl.Find(next, name); !ok || info.Decl != len(e.Decls) {
				t.Errorf("%s is %v, %v", name, info, ok)
			}
		}
		e = next
		holdEnv(t, "behind "+d.Name, e, true)
	}
	holdConstants(t, "all of them", e)
	if impl.Height(e, "newers") != 2 {
		t.Errorf("height %d", impl.Height(e, "newers"))
	}
}
