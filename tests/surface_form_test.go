package tests

import (
	"strings"
	"testing"
)

type surfCase struct{ text, want string }

func holdFormTrees(t *testing.T, cases []surfCase) {
	t.Helper()
	for _, c := range cases {
		holdTree(t, parseForm, c.text, c.want)
		// The same term in brackets is the same tree, with all but At.
		inside, code, _ := parseForm(c.text)
		around, aroundCode, _ := parseForm("((" + c.text + "\n))")
		if code != 0 || aroundCode != 0 || !equalTrees(inside, around, false) {
			t.Errorf("%q is another tree in brackets", c.text)
		}
	}
}

func TestParseFormAtoms(t *testing.T) {
	holdFormTrees(t, []surfCase{
		{"f", "name@0:f"},
		{" f ", "name@1:f"},
		{"a.b'", "name@0:a.b'"},
		{"_.a", "name@0:_.a"},
		{"fun.x", "name@0:fun.x"},
		{"intro", "name@0:intro"},
		{"max", "name@0:max"},
		{"@f", "name@0:f!1"},
		{" @ a.b", "name@1:a.b!1"},
		{"_", "open@0"},
		{"0", "number@0"},
		{"7", "number@0#7"},
		{"007", "number@0#7"},
		{"100", "number@0#100"},
		{"Prop", "sort@0{0}"},
		{"Type", "sort@0{1}"},
		{"(x)", "name@1:x"},
		{"( ( x ) )", "name@4:x"},
		{"(x : T)", "of@0(name@1:x name@5:T)"},
		{"((x : T))", "of@1(name@2:x name@6:T)"},
		{"((x) : (T))", "of@0(name@2:x name@8:T)"},
		{"((x : T) : S)", "of@0(of@1(name@2:x name@6:T) name@11:S)"},
		{"(fun x => x : T)", "of@0(fun@5:x(open@5 name@10:x) name@14:T)"},
		{"(a -> b : forall (x : c), d)", "of@0(all@1:_(name@1:a name@6:b) all@18:x(name@22:c name@26:d))"},
	})
}

func TestParseFormLevels(t *testing.T) {
	holdFormTrees(t, []surfCase{
		{"Type 0", "sort@0{1}"},
		{"Type 3", "sort@0{4}"},
		{"Type 62", "sort@0{63}"},
		{"Type u", "sort@0{u+1}"},
		{"Type u'", "sort@0{u'+1}"},
		{"Type(u)", "sort@0{u+1}"},
		{"Type (u + 1)", "sort@0{u+2}"},
		{"Type ((u + 1) + 2)", "sort@0{u+4}"},
		{"Type max(u,v)", "sort@0{max(u,v)+1}"},
		{"Type\nimax ( u , v )", "sort@0{imax(u,v)+1}"},
		{"Sort 0", "sort@0{0}"},
		{"Sort 000", "sort@0{0}"},
		{"Sort 1", "sort@0{1}"},
		{"Sort 63", "sort@0{63}"},
		{"Sort u", "sort@0{u}"},
		{"Sort (u)", "sort@0{u}"},
		{"Sort (((u)))", "sort@0{u}"},
		{"Sort (0 + 0)", "sort@0{0}"},
		{"Sort (u + 0)", "sort@0{u}"},
		{"Sort (2 + 3)", "sort@0{5}"},
		{"Sort (u + 63)", "sort@0{u+63}"},
		{"Sort max(u + 1, (v + 2) + 3)", "sort@0{max(u+1,v+5)}"},
		{"Sort max(max(0,1),imax((u),2))", "sort@0{max(max(0,1),imax(u,2))}"},
		{"Sort (max(0,1) + 2)", "sort@0{max(0,1)+2}"},
		{"Sort imax(imax(a,b) + 1,max(c,d) + 2)", "sort@0{imax(imax(a,b)+1,max(c,d)+2)}"},
		{"Sort maxi", "sort@0{maxi}"},
		{"Sort intro", "sort@0{intro}"},
		{"f.{u}", "name@0:f{u}"},
		{"f.{0}", "name@0:f{0}"},
		{"f .{ 1 , u + 1 , max ( u , v ) }", "name@0:f{1 u+1 max(u,v)}"},
		{"@f.{(u)}", "name@0:f!1{u}"},
		{"f.{a,b,c,d,e,g}", "name@0:f{a b c d e g}"},
		{"f.{u,u,u,u,u,u}", "name@0:f{u u u u u u}"},
		{"f.{max(max(a,b),max(c,d)),imax(e,g)+1}", "name@0:f{max(max(a,b),max(c,d)) imax(e,g)+1}"},
		{"a.b.{63}", "name@0:a.b{63}"},
	})
}

// What stands behind a universe is its base, an argument, or something else.
func TestParseFormBehindUniverses(t *testing.T) {
	holdFormTrees(t, []surfCase{
		{"Prop x", "app@0(sort@0{0} name@5:x)"},
		{"Prop (x)", "app@0(sort@0{0} name@6:x)"},
		{"Prop 3", "app@0(sort@0{0} number@5#3)"},
		{"Type u v", "app@0(sort@0{u+1} name@7:v)"},
		{"Type 3 4", "app@0(sort@0{4} number@7#4)"},
		{"Type 3 (x)", "app@0(sort@0{4} name@8:x)"},
		{"Type (u) (x)", "app@0(sort@0{u+1} name@10:x)"},
		{"Type max(u,v) (x)", "app@0(sort@0{max(u,v)+1} name@15:x)"},
		{"Type _", "app@0(sort@0{1} open@5)"},
		{"Type @f", "app@0(sort@0{1} name@5:f!1)"},
		{"Type Prop", "app@0(sort@0{1} sort@5{0})"},
		{"Type Type", "app@0(sort@0{1} sort@5{1})"},
		{"Type Type u", "app@0(sort@0{1} sort@5{u+1})"},
		{"Type Sort u", "app@0(sort@0{1} sort@5{u})"},
		{"Type.1", "proj@0#1(sort@0{1})"},
		{"Type u.1", "proj@0#1(sort@0{u+1})"},
		{"Type.1 x", "app@0(proj@0#1(sort@0{1}) name@7:x)"},
		{"Type.1 (x)", "app@0(proj@0#1(sort@0{1}) name@8:x)"},
		{"Sort u v", "app@0(sort@0{u} name@7:v)"},
		{"Sort u _", "app@0(sort@0{u} open@7)"},
		{"Sort u.1 (x)", "app@0(proj@0#1(sort@0{u}) name@10:x)"},
		{"Sort (u) (x)", "app@0(sort@0{u} name@10:x)"},
		{"Sort 1 2", "app@0(sort@0{1} number@7#2)"},
		{"(Type) u", "app@1(sort@1{1} name@7:u)"},
		{"(Type) (u)", "app@1(sort@1{1} name@8:u)"},
		{"(Sort u) (x)", "app@1(sort@1{u} name@10:x)"},
		{"f Type u", "app@0(name@0:f sort@2{u+1})"},
		{"f Prop Type", "app@0(app@0(name@0:f sort@2{0}) sort@7{1})"},
		{"Type + 1", "app@0(app@0(name@0:Add.add sort@0{1}) number@7#1)"},
		{"Type u + 1", "app@0(app@0(name@0:Add.add sort@0{u+1}) number@9#1)"},
		{"Sort u + 1", "app@0(app@0(name@0:Add.add sort@0{u}) number@9#1)"},
		{"Sort 1 -> Type", "all@0:_(sort@0{1} sort@10{1})"},
		{"Type -> Type", "all@0:_(sort@0{1} sort@8{1})"},
	})
}

func TestParseFormApplications(t *testing.T) {
	holdFormTrees(t, []surfCase{
		{"f x", "app@0(name@0:f name@2:x)"},
		{"f x y", "app@0(app@0(name@0:f name@2:x) name@4:y)"},
		{"f(x)y", "app@0(app@0(name@0:f name@2:x) name@4:y)"},
		{"(f x) y", "app@1(app@1(name@1:f name@3:x) name@6:y)"},
		{"f (x y)", "app@0(name@0:f app@3(name@3:x name@5:y))"},
		{"((f)) x", "app@2(name@2:f name@6:x)"},
		{"@f _ 3 Prop", "app@0(app@0(app@0(name@0:f!1 open@3) number@5#3) sort@7{0})"},
		{"f @g x", "app@0(app@0(name@0:f name@2:g!1) name@5:x)"},
		{"3 x", "app@0(number@0#3 name@2:x)"},
		{"_ _", "app@0(open@0 open@2)"},
		{"(fun x => x) y", "app@5(fun@5:x(open@5 name@10:x) name@13:y)"},
		{"(x : T) y", "app@0(of@0(name@1:x name@5:T) name@8:y)"},
		{"f (x : T)", "app@0(name@0:f of@2(name@3:x name@7:T))"},
		{"f.{u} x", "app@0(name@0:f{u} name@6:x)"},
		{"f 1 2", "app@0(app@0(name@0:f number@2#1) number@4#2)"},
	})
}

func TestParseFormProjections(t *testing.T) {
	holdFormTrees(t, []surfCase{
		{"x.1", "proj@0#1(name@0:x)"},
		{"x . 999", "proj@0#999(name@0:x)"},
		{"x.01", "proj@0#1(name@0:x)"},
		{"x.1.2", "proj@0#2(proj@0#1(name@0:x))"},
		{"a.b.1", "proj@0#1(name@0:a.b)"},
		{"@x.1", "proj@0#1(name@0:x!1)"},
		{"x.{u}.1", "proj@0#1(name@0:x{u})"},
		{"3.2", "proj@0#2(number@0#3)"},
		{"_.1", "proj@0#1(open@0)"},
		{"Prop.1", "proj@0#1(sort@0{0})"},
		{"(f x).2", "proj@0#2(app@1(name@1:f name@3:x))"},
		{" ((x)).2", "proj@1#2(name@3:x)"},
		{"(x : T).1", "proj@0#1(of@0(name@1:x name@5:T))"},
		{"(x.1).2", "proj@0#2(proj@1#1(name@1:x))"},
		{"f x.1", "app@0(name@0:f proj@2#1(name@2:x))"},
		{"f.1 x", "app@0(proj@0#1(name@0:f) name@4:x)"},
		{"(x).1 y", "app@0(proj@0#1(name@1:x) name@6:y)"},
		{"f (x).1", "app@0(name@0:f proj@2#1(name@3:x))"},
		{"x.1 + y.2", "app@0(app@0(name@0:Add.add proj@0#1(name@0:x)) proj@6#2(name@6:y))"},
		{"(fun x => x).1", "proj@0#1(fun@5:x(open@5 name@10:x))"},
	})
}

func TestParseFormOperators(t *testing.T) {
	holdFormTrees(t, []surfCase{
		{`a \/ b`, "app@0(app@0(name@0:Or name@0:a) name@5:b)"},
		{`a /\ b`, "app@0(app@0(name@0:And name@0:a) name@5:b)"},
		{"a = b", "app@0(app@0(name@0:Eq name@0:a) name@4:b)"},
		{"a + b", "app@0(app@0(name@0:Add.add name@0:a) name@4:b)"},
		{"a * b", "app@0(app@0(name@0:Mul.mul name@0:a) name@4:b)"},
		{"a -> b", "all@0:_(name@0:a name@5:b)"},
		{`a \/ b \/ c`, "app@0(app@0(name@0:Or name@0:a) app@5(app@5(name@5:Or name@5:b) name@10:c))"},
		{`a /\ b /\ c`, "app@0(app@0(name@0:And name@0:a) app@5(app@5(name@5:And name@5:b) name@10:c))"},
		{"a + b + c", "app@0(app@0(name@0:Add.add app@0(app@0(name@0:Add.add name@0:a) name@4:b)) name@8:c)"},
		{"a * b * c", "app@0(app@0(name@0:Mul.mul app@0(app@0(name@0:Mul.mul name@0:a) name@4:b)) name@8:c)"},
		{"a -> b -> c", "all@0:_(name@0:a all@5:_(name@5:b name@10:c))"},
		{"(a -> b) -> c", "all@1:_(all@1:_(name@1:a name@6:b) name@12:c)"},
		{"a + b * c", "app@0(app@0(name@0:Add.add name@0:a) app@4(app@4(name@4:Mul.mul name@4:b) name@8:c))"},
		{"a * b + c", "app@0(app@0(name@0:Add.add app@0(app@0(name@0:Mul.mul name@0:a) name@4:b)) name@8:c)"},
		{"a * (b + c)", "app@0(app@0(name@0:Mul.mul name@0:a) app@5(app@5(name@5:Add.add name@5:b) name@9:c))"},
		{"a + (b + c)", "app@0(app@0(name@0:Add.add name@0:a) app@5(app@5(name@5:Add.add name@5:b) name@9:c))"},
		{"(a) + b", "app@1(app@1(name@1:Add.add name@1:a) name@6:b)"},
		{"(a + b) * c", "app@1(app@1(name@1:Mul.mul app@1(app@1(name@1:Add.add name@1:a) name@5:b)) name@10:c)"},
		{"a = b + c", "app@0(app@0(name@0:Eq name@0:a) app@4(app@4(name@4:Add.add name@4:b) name@8:c))"},
		{"a + b = c", "app@0(app@0(name@0:Eq app@0(app@0(name@0:Add.add name@0:a) name@4:b)) name@8:c)"},
		{`a = b /\ c = d`, "app@0(app@0(name@0:And app@0(app@0(name@0:Eq name@0:a) name@4:b)) app@9(app@9(name@9:Eq name@9:c) name@13:d))"},
		{`a /\ b \/ c /\ d`, "app@0(app@0(name@0:Or app@0(app@0(name@0:And name@0:a) name@5:b)) app@10(app@10(name@10:And name@10:c) name@15:d))"},
		{`a \/ b /\ c`, "app@0(app@0(name@0:Or name@0:a) app@5(app@5(name@5:And name@5:b) name@10:c))"},
		{`a \/ b -> c`, "all@0:_(app@0(app@0(name@0:Or name@0:a) name@5:b) name@10:c)"},
		{`a -> b \/ c`, "all@0:_(name@0:a app@5(app@5(name@5:Or name@5:b) name@10:c))"},
		{"(a = b) = c", "app@1(app@1(name@1:Eq app@1(app@1(name@1:Eq name@1:a) name@5:b)) name@10:c)"},
		{"f a + g b", "app@0(app@0(name@0:Add.add app@0(name@0:f name@2:a)) app@6(name@6:g name@8:b))"},
		{"a -> fun x => x", "all@0:_(name@0:a fun@9:x(open@9 name@14:x))"},
		{"a -> forall (x : b), c", "all@0:_(name@0:a all@13:x(name@17:b name@21:c))"},
		{"(x : T) -> b", "all@0:_(of@0(name@1:x name@5:T) name@11:b)"},
		{"(x).1 + b", "app@0(app@0(name@0:Add.add proj@0#1(name@1:x)) name@8:b)"},
		{"1+2*3=7", "app@0(app@0(name@0:Eq app@0(app@0(name@0:Add.add number@0#1) app@2(app@2(name@2:Mul.mul number@2#2) number@4#3))) number@6#7)"},
	})
}

func TestParseFormBinders(t *testing.T) {
	holdFormTrees(t, []surfCase{
		{"fun x => b", "fun@4:x(open@4 name@9:b)"},
		{"fun _ => b", "fun@4:_(open@4 name@9:b)"},
		{"fun x y => b", "fun@4:x(open@4 fun@6:y(open@6 name@11:b))"},
		{"fun (x : A) => b", "fun@5:x(name@9:A name@15:b)"},
		{"fun {x : A} => b", "fun@5:x!1(name@9:A name@15:b)"},
		{"fun [x : A] => b", "fun@5:x!2(name@9:A name@15:b)"},
		{"fun (x y : A) => b", "fun@5:x(name@11:A fun@7:y(name@11:A name@17:b))"},
		{"fun {x _ y : f a} => b", "fun@5:x!1(app@13(name@13:f name@15:a) fun@7:_!1(app@13(name@13:f name@15:a) fun@9:y!1(app@13(name@13:f name@15:a) name@21:b)))"},
		{"fun (x : A) y {z w : B} [_ : C] => b", "fun@5:x(name@9:A fun@12:y(open@12 fun@15:z!1(name@21:B fun@17:w!1(name@21:B fun@25:_!2(name@29:C name@35:b)))))"},
		{"fun (x : _) => b", "fun@5:x(open@9 name@15:b)"},
		{"fun x => fun y => x", "fun@4:x(open@4 fun@13:y(open@13 name@18:x))"},
		{"fun (x : a -> b) => a + b", "fun@5:x(all@9:_(name@9:a name@14:b) app@20(app@20(name@20:Add.add name@20:a) name@24:b))"},
		{"fun (x : fun y => z) => b", "fun@5:x(fun@13:y(open@13 name@18:z) name@24:b)"},
		{"forall (x : A), b", "all@8:x(name@12:A name@16:b)"},
		{"forall {x : A}, b", "all@8:x!1(name@12:A name@16:b)"},
		{"forall [x : A], b", "all@8:x!2(name@12:A name@16:b)"},
		{"forall (x y : A) {z : B}, b -> c", "all@8:x(name@14:A all@10:y(name@14:A all@18:z!1(name@22:B all@26:_(name@26:b name@31:c))))"},
		{"forall (x : A), forall [_ : B], c", "all@8:x(name@12:A all@24:_!2(name@28:B name@32:c))"},
		{"let x := v; b", "let@0:x(open@6 name@9:v name@12:b)"},
		{"let x:=v;b", "let@0:x(open@5 name@7:v name@9:b)"},
		{"let x : T := v; b", "let@0:x(name@8:T name@13:v name@16:b)"},
		{"let _ : _ := v; b", "let@0:_(open@8 name@13:v name@16:b)"},
		{"let x := let y := u; v; b", "let@0:x(open@6 let@9:y(open@15 name@18:u name@21:v) name@24:b)"},
		{"let x : let y := u; v := w; b", "let@0:x(let@8:y(open@14 name@17:u name@20:v) name@25:w name@28:b)"},
		{"let x := fun y => y; fun z => x", "let@0:x(open@6 fun@13:y(open@13 name@18:y) fun@25:z(open@25 name@30:x))"},
		{"let x := v; let y := w; b", "let@0:x(open@6 name@9:v let@12:y(open@18 name@21:w name@24:b))"},
		{"f (let x := v; b)", "app@0(name@0:f let@3:x(open@9 name@12:v name@15:b))"},
		{"fun x' => x'", "fun@4:x'(open@4 name@10:x')"},
	})
}

// Blanks and notes between tokens change nothing but At.
func TestParseFormBlanks(t *testing.T) {
	text := "fun (x y : f.{max(u,v),2} a.1) [z : _] w => let q := (x : T); @g Type u 3 -> (x = y) + 1 * (forall {_ : Prop}, 2)"
	plain, code, at := parseForm(text)
	if code != 0 {
		t.Fatalf("code %d at %d", code, at)
	}
	for _, blank := range []string{" ", "\n", "\t", "\r\n", "  \n", " -- ) ?\n", "--\n", " -- -> \r\n\t "} {
		changed := strings.ReplaceAll(text, " ", blank)
		for _, around := range []string{"", blank} {
			tree, code, at := parseForm(around + changed + around)
			if code != 0 || at != 0 || !equalTrees(plain, tree, false) {
				t.Errorf("%q: code %d at %d", around+changed, code, at)
			}
		}
	}
}
