package tests

import (
	"strings"
	"testing"

	"loop.example/g00005/impl"
)

// fieldTexts tells fields in one line: name, type, and for fields of the family
// how many arguments they take.
func fieldTexts(fields []impl.Field) string {
	var texts []string
	for _, f := range fields {
		text := f.Name + " " + written(f.Type)
		if f.Self {
			text += " self" + strings.Repeat("'", f.Under)
		} else {
			text += strings.Repeat("!", f.Under)
		}
		texts = append(texts, text)
	}
	return strings.Join(texts, "; ")
}

func TestFieldsOf(t *testing.T) {
	mixed := family("F", "u", 1, "[! A 0 *u [! n 0 Nat *1]]",
		"none", "[! A 0 *u [[F{u} #0] Nat.zero]]",
		"one", "[! A 0 *u [! a 1 #0 [[F{u} #1] Nat.zero]]]",
		"all", "[! A 0 *u [! n 0 Nat [! f 2 [! x 0 #1 [! y 1 Nat [[F{u} #3] #2]]] [! g 0 [! x 2 #2 #3] [! h 0 [[F{u} #3] #2] [! A 0 [! z 0 Nat [[F{u} #5] #0]] [[F{u} #5] #4]]]]]]]")
	for _, c := range []struct {
		d    impl.Decl
		ctor int
		want string
	}{
		{natFamily(), 0, ""},
		{natFamily(), 1, "n Nat self"},
		{listFamily(), 0, ""},
		{listFamily(), 1, "head #0; tail [List{u} #1] self"},
		{vecFamily(), 0, ""},
		{vecFamily(), 1, "m Nat; a #1; v [[Vec{u} #2] #1] self"},
		{accFamily(), 0, "x #1; h [! y 1 #2 [! p 2 [[#2 #0] #1] [[[Acc{u} #4] #3] #1]]] self''"},
		{prodFamily(), 0, "a #1; b #1"},
		{mixed, 0, ""},
		{mixed, 1, "a #0"},
		{mixed, 2, "n Nat; f [! x 0 #1 [! y 1 Nat [[F{u} #3] #2]]] self''; g [! x 2 #2 #3]; h [[F{u} #3] #2] self; A [! z 0 Nat [[F{u} #5] #0]] self'"},
		{family("T", "v", 0, "*v+1", "T.mk", "[! f 0 [! x 0 *v T{v}] T{v}]"), 0, "f [! x 0 *v T{v}] self'"},
		{family("F", "", 0, "*1", "c", "[! F 0 F [! x 0 [! F 0 Nat F] F]]"), 0, "F F self; x [! F 0 Nat F] self'"},
	} {
		got, ok := impl.FieldsOf(c.d, c.ctor)
		if !ok || fieldTexts(got) != c.want {
			t.Errorf("%s %d: %s and %v, not %s", c.d.Name, c.ctor, fieldTexts(got), ok, c.want)
		}
		if !equalFields(got, slowFields(c.d, c.ctor)) {
			t.Errorf("%s %d: other fields by the slow way", c.d.Name, c.ctor)
		}
	}
}

func TestFieldsOfNoConstructor(t *testing.T) {
	for _, d := range append(formedFamilies(), oneOfEach()...) {
		for _, ctor := range []int{-1 << 63, -1, len(d.Ctors), len(d.Ctors) + 1, 1<<63 - 1} {
			if fields, ok := impl.FieldsOf(d, ctor); ok || len(fields) != 0 {
				t.Errorf("%s %d: %v and %v", d.Name, ctor, fields, ok)
			}
		}
	}
}

func TestFamilyKinds(t *testing.T) {
	for _, c := range []struct {
		d         impl.Decl
		indices   int
		prop      bool
		structure bool
	}{
		{natFamily(), 0, false, false},
		{listFamily(), 0, false, false},
		{vecFamily(), 1, false, false},
		{accFamily(), 1, true, false},
		{prodFamily(), 0, false, true},
		{family("Unit", "", 0, "*1", "star", "Unit"), 0, false, true},
		{family("Empty", "", 0, "*1"), 0, false, false},
		{family("False", "", 0, "*0"), 0, true, false},
		{family("True", "", 0, "*0", "c", "True"), 0, true, false},
		{family("True", "u", 0, "*imax(u,0)", "c", "True{u}"), 0, true, false},
		{family("F", "u", 0, "*imax(0,u+1)", "c", "F{u}"), 0, false, true},
		{family("F", "u", 0, "*max(u,1)", "c", "[! x 0 Nat [! y 0 [! z 0 #0 Nat] F{u}]]"), 0, false, true},
		{family("F", "", 0, "*1", "c", "[! x 0 Nat [! y 0 F F]]"), 0, false, false},
		{family("F", "", 0, "*1", "c", "[! x 0 [! y 0 Nat F] F]"), 0, false, false},
		{family("F", "", 0, "*1", "c", "F", "d", "F"), 0, false, false},
		{family("F", "", 0, "[! n 0 Nat *1]", "c", "[! n 0 Nat [F #0]]"), 1, false, false},
		{family("F", "", 1, "[! n 0 Nat *1]", "c", "[! n 0 Nat [F #0]]"), 0, false, true},
		{family("F", "", 1, "[! n 0 Nat [! m 0 Nat [! k 0 Nat *0]]]"), 2, true, false},
		{family("F", "", 0, wide(300, "*2")), 300, false, false},
	} {
		if got := impl.IndicesOf(c.d); got != c.indices {
			t.Errorf("%s: %d indices, not %d", written(c.d.Type), got, c.indices)
		}
		if impl.IsProp(c.d) != c.prop || impl.IsStructure(c.d) != c.structure {
			t.Errorf("%s: in Prop is %v, a structure %v", written(c.d.Type), impl.IsProp(c.d), impl.IsStructure(c.d))
		}
	}
}

// Each would be in Prop, or a structure, but for one mistake.
func TestFamilyKindsOfOthers(t *testing.T) {
	wrong := []impl.Decl{
		family("F", "u", 0, "*u", "c", "F{u}"),
		family("F", "", 0, "*0", "c", "Nat"),
		family("F", "", 0, "*1", "c", "[! x 0 [List F] F]"),
		family("F", "", 1, "*1", "c", "F"),
		declared(impl.KindAxiom, "F", "", "*0", ""),
		declared(impl.KindDef, "F", "", "*1", "*0"),
		declared(impl.KindTheorem, "F", "", "*0", "*0"),
		quotients(), {},
		family("F", "u", 0, "*v+1", "c", "F{u}"),
		family("F", "u u", 0, "*u+1", "c", "F{u}"),
	}
	for _, d := range wrong {
		holdUnformed(t, d.Name+" "+strings.Join(d.Params, " "), d)
	}
}
