package tests

import (
	"strings"
	"testing"

	"loop.example/g00005/impl"
)

// holdFileTrees has each text read as a file of one command, which is wanted.
func holdFileTrees(t *testing.T, cases []surfCase) {
	t.Helper()
	for _, c := range cases {
		holdTree(t, parseFile, c.text, "file@0("+c.want+")")
	}
}

func TestParseFileCommands(t *testing.T) {
	holdFileTrees(t, []surfCase{
		{"axiom a : A", "axiom@0:a(name@10:A)"},
		{" axiom a.b' : A", "axiom@1:a.b'(name@14:A)"},
		{"def f : A := b", "def@0:f(name@8:A name@13:b)"},
		{"instance i : A := b", "instance@0:i(name@13:A name@18:b)"},
		{"theorem t : A := b", "theorem@0:t(name@12:A name@17:b)"},
		{"quotient", "quot@0"},
		{"eval f x", "eval@0(app@5(name@5:f name@7:x))"},
		{"check fun x => x", "check@0(fun@10:x(open@10 name@15:x))"},
		{"eval a -> b", "eval@0(all@5:_(name@5:a name@10:b))"},
		{"axiom a.{u} : A", "axiom@0:a<u>(name@14:A)"},
		{"axiom a .{ u , v } : A", "axiom@0:a<u v>(name@21:A)"},
		{"axiom a.{a,b,c,d,e,f} : A", "axiom@0:a<a b c d e f>(name@24:A)"},
		{"axiom a.{intro,u'} : A", "axiom@0:a<intro u'>(name@21:A)"},
		{"def x.f.{v} : A := b", "def@0:x.f<v>(name@14:A name@19:b)"},
		{"def intro : intro := exact", "def@0:intro(name@12:intro name@21:exact)"},
	})
}

func TestParseFileHeads(t *testing.T) {
	holdFileTrees(t, []surfCase{
		{"axiom a (x : A) : B", "axiom@0:a(all@9:x(name@13:A name@18:B))"},
		{"axiom a {x : A} : B", "axiom@0:a(all@9:x!1(name@13:A name@18:B))"},
		{"axiom a [x : A] : B", "axiom@0:a(all@9:x!2(name@13:A name@18:B))"},
		{"axiom a.{u} (x y : A) {_ : B} : C -> D", "axiom@0:a<u>(all@13:x(name@19:A all@15:y(name@19:A all@23:_!1(name@27:B all@32:_(name@32:C name@37:D)))))"},
		{"def f (x : A) : B := x", "def@0:f(all@7:x(name@11:A name@16:B) fun@7:x(name@11:A name@21:x))"},
		{"def f.{u} {x y : A} [i : B x] : C := y", "def@0:f<u>(" +
			"all@11:x!1(name@17:A all@13:y!1(name@17:A all@21:i!2(app@25(name@25:B name@27:x) name@32:C))) " +
			"fun@11:x!1(name@17:A fun@13:y!1(name@17:A fun@21:i!2(app@25(name@25:B name@27:x) name@37:y))))"},
		{"instance i (x : A) : B := x", "instance@0:i(all@12:x(name@16:A name@21:B) fun@12:x(name@16:A name@26:x))"},
		{"theorem t (x : A) : B := x", "theorem@0:t(all@11:x(name@15:A name@20:B) fun@11:x(name@15:A name@25:x))"},
		{"theorem t (x : A) : B by refl", "script@0:t(all@11:x(name@15:A name@20:B) refl@25)"},
		{"theorem t.{u} {x : A} [_ : B] : C by refl", "script@0:t<u>(all@15:x!1(name@19:A all@23:_!2(name@27:B name@32:C)) refl@37)"},
		{"def f (x : forall (y z : A), B) : C := x", "def@0:f(" +
			"all@7:x(all@19:y(name@25:A all@21:z(name@25:A name@29:B)) name@34:C) " +
			"fun@7:x(all@19:y(name@25:A all@21:z(name@25:A name@29:B)) name@39:x))"},
		{"def f (x : A) (x : x) : x := x", "def@0:f(all@7:x(name@11:A all@15:x(name@19:x name@24:x)) fun@7:x(name@11:A fun@15:x(name@19:x name@29:x)))"},
		{"def f (a : Type u) (b : Sort v) : A := a", "def@0:f(all@7:a(sort@11{u+1} all@20:b(sort@24{v} name@34:A)) fun@7:a(sort@11{u+1} fun@20:b(sort@24{v} name@39:a)))"},
	})
}

func TestParseFileFamilies(t *testing.T) {
	holdFileTrees(t, []surfCase{
		{"family F : Prop", "family@0:F(sort@11{0})"},
		{"family F 2 : Type", "family@0:F#2(sort@13{1})"},
		{"family F 0 : Type", "family@0:F(sort@13{1})"},
		{"family F 50 : Type", "family@0:F#50(sort@14{1})"},
		{"family F 050 : Type", "family@0:F#50(sort@15{1})"},
		{"family F.{u,v} 1 : Type u | F.a : A | F.b.c : B -> C", "family@0:F#1<u v>(sort@19{u+1} ctor@28:F.a(name@34:A) ctor@38:F.b.c(all@46:_(name@46:B name@51:C)))"},
		{"family F.{u} : Type u | c : A", "family@0:F<u>(sort@15{u+1} ctor@24:c(name@28:A))"},
		{"class C : T | mk : A", "class@0:C(name@10:T ctor@14:mk(name@19:A))"},
		{"class C.{u} 3 : T | mk : A", "class@0:C#3<u>(name@16:T ctor@20:mk(name@25:A))"},
	})
}

func TestParseFileClauses(t *testing.T) {
	holdFileTrees(t, []surfCase{
		{"def f : A | x => b", "clauses@0:f(name@8:A clause@10(pattern@12:x name@17:b))"},
		{"def f 0 : A | x => b", "clauses@0:f(name@10:A clause@12(pattern@14:x name@19:b))"},
		{"def f 3 : A | x => b", "clauses@0:f#3(name@10:A clause@12(pattern@14:x name@19:b))"},
		{"def f.{u} 50 : A | _ => b", "clauses@0:f#50<u>(name@15:A clause@17(any@19 name@24:b))"},
		{"def f.{u} : A | _ => b | c.d x _ => x", "clauses@0:f<u>(name@12:A clause@14(any@16 name@21:b) clause@23(pattern@25:c.d(pattern@29:x any@31) name@36:x))"},
		{"def f : A | x, _, c y => b", "clauses@0:f(name@8:A clause@10(pattern@12:x any@15 pattern@18:c(pattern@20:y) name@25:b))"},
		{"def f : A | 0 => b", "clauses@0:f(name@8:A clause@10(pattern@12:Nat.zero name@17:b))"},
		{"def f : A | 2 => b", "clauses@0:f(name@8:A clause@10(pattern@12:Nat.succ(pattern@12:Nat.succ(pattern@12:Nat.zero)) name@17:b))"},
		{"def f : A | c 1 0 => b", "clauses@0:f(name@8:A clause@10(pattern@12:c(pattern@14:Nat.succ(pattern@14:Nat.zero) pattern@16:Nat.zero) name@21:b))"},
		{"def f : A | (x) => b", "clauses@0:f(name@8:A clause@10(pattern@13:x name@19:b))"},
		{"def f : A | ((c x)) => b", "clauses@0:f(name@8:A clause@10(pattern@14:c(pattern@16:x) name@23:b))"},
		{"def f : A | c (d x) (y) (_) (1) => b", "clauses@0:f(name@8:A clause@10(pattern@12:c(pattern@15:d(pattern@17:x) pattern@21:y any@25 pattern@29:Nat.succ(pattern@29:Nat.zero)) name@35:b))"},
		{"def f : A | (_) => b", "clauses@0:f(name@8:A clause@10(any@13 name@19:b))"},
		{"def f : A | (2) => b", "clauses@0:f(name@8:A clause@10(pattern@13:Nat.succ(pattern@13:Nat.succ(pattern@13:Nat.zero)) name@19:b))"},
		{"def f : A -> B | x => fun y => x | x, y => let z := x; y", "clauses@0:f(all@8:_(name@8:A name@13:B) clause@15(pattern@17:x fun@26:y(open@26 name@31:x)) clause@33(pattern@35:x pattern@38:y let@43:z(open@49 name@52:x name@55:y)))"},
	})
}

func TestParseFileScripts(t *testing.T) {
	holdFileTrees(t, []surfCase{
		{"theorem t : A by intro x", "script@0:t(name@12:A intro@17:x)"},
		{"theorem t : A by intro _", "script@0:t(name@12:A intro@17:_)"},
		{"theorem t : A by exact f x", "script@0:t(name@12:A exact@17(app@23(name@23:f name@25:x)))"},
		{"theorem t : A by apply @f", "script@0:t(name@12:A apply@17(name@23:f!1))"},
		{"theorem t : A by rewrite h", "script@0:t(name@12:A rewrite@17(name@25:h))"},
		{"theorem t : A by rewrite <- h", "script@0:t(name@12:A rewrite@17!1(name@28:h))"},
		{"theorem t : A by induction x", "script@0:t(name@12:A induction@17:x)"},
		{"theorem t : A by cases _", "script@0:t(name@12:A cases@17:_)"},
		{"theorem t : A by assumption", "script@0:t(name@12:A assumption@17)"},
		{"theorem t : A by refl", "script@0:t(name@12:A refl@17)"},
		{"theorem t : A by constructor", "script@0:t(name@12:A constructor@17)"},
		{"theorem t : A by have x : B := c", "script@0:t(name@12:A have@17:x(name@26:B name@31:c))"},
		{"theorem t : A by have _ : B -> C := fun x => x", "script@0:t(name@12:A have@17:_(all@26:_(name@26:B name@31:C) fun@40:x(open@40 name@45:x)))"},
		{"theorem t : A by intro x; refl ;assumption", "script@0:t(name@12:A intro@17:x refl@26 assumption@32)"},
		{"theorem t : A by exact intro; cases refl", "script@0:t(name@12:A exact@17(name@23:intro) cases@30:refl)"},
		{"theorem t : A by exact let x := y; z; refl", "script@0:t(name@12:A exact@17(let@23:x(open@29 name@32:y name@35:z)) refl@38)"},
		{"theorem t : A by exact fun x => x; intro by'", "script@0:t(name@12:A exact@17(fun@27:x(open@27 name@32:x)) intro@35:by')"},
	})
}

func TestParseFileOfMany(t *testing.T) {
	for _, c := range []surfCase{
		{"", "file@0"},
		{" \n-- nothing\n", "file@0"},
		{"quotient quotient", "file@0(quot@0 quot@9)"},
		{"axiom a : A axiom b : B", "file@0(axiom@0:a(name@10:A) axiom@12:b(name@22:B))"},
		{"\neval a\ncheck b\n", "file@0(eval@1(name@6:a) check@8(name@14:b))"},
		{"def f : A | x => b def g : B := c", "file@0(clauses@0:f(name@8:A clause@10(pattern@12:x name@17:b)) def@19:g(name@27:B name@32:c))"},
		{"family F : Type family G : Type | c : G eval F", "file@0(family@0:F(sort@11{1}) family@16:G(sort@27{1} ctor@34:c(name@38:G)) eval@40(name@45:F))"},
		{"theorem t : A by refl theorem s : B := b", "file@0(script@0:t(name@12:A refl@17) theorem@22:s(name@34:B name@39:b))"},
		{"axiom a : Type\nquotient", "file@0(axiom@0:a(sort@10{1}) quot@15)"},
	} {
		holdTree(t, parseFile, c.text, c.want)
	}
	if tree, code, at := impl.ParseFile(nil); code != 0 || at != 0 || len(tree.Forms) != 1 || !impl.TreeOk(tree) {
		t.Errorf("nil: code %d at %d, %v", code, at, tree)
	}
	many := strings.Repeat("quotient\n", 2000)
	tree, code, _ := parseFile(many)
	if code != 0 || len(tree.Forms) != 2001 || tree.Forms[1999].At != 9*1999 || len(tree.Forms[2000].Kids) != 2000 {
		t.Errorf("code %d, %d forms", code, len(tree.Forms))
	}
}
