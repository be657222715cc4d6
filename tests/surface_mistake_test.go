package tests

import (
	"strings"
	"testing"

	"loop.example/g00005/impl"
)

// A mistake is marked by a `!` in front of the token that is told, or at the end;
// the first one is the mark.
func holdMarked(t *testing.T, parse surfParse, marked string) {
	t.Helper()
	front, behind, found := strings.Cut(marked, "!")
	if !found {
		t.Fatalf("%q has no mark", marked)
	}
	for _, more := range []string{"", " ) fun x ]"} {
		text := front + behind
		if behind != "" {
			text += more
		}
		holdParseCode(t, parse, text, impl.CodeText, len(front))
	}
}

func TestParseFormMistakes(t *testing.T) {
	for _, marked := range []string{
		"!", " \n!", "-- x!", "!)", "!axiom", "!by x", "!:", "!|", "!=", "!+ x", "!->", "!.1", "!.{u}", "!]", "!{x}", "![x]", "!;", "!,", "!<- x", "!=> x", "!:= x",
		"x !)", "x !: T", "x !:= y", "x !, y", "x !; y", "x !| y", "x !=> y", "x !<- y", "x !axiom", "x !by", "x !{y}", "x ![y]", "x !]", "x !}",
		"f !fun x => x", "f !forall (x : A), B", "f !let x := y; z", "a + !fun x => x", "a = !forall (x : A), B", `a /\ !fun x => x`, `a \/ !let x := y; z`, "a * !fun x => x", "@!_", "@!3", "@!(x)", "@!Prop", "@!@x", "@!", "x @!",
		"(!", "(!)", "(x!", "(x !] ", "(x !; y)", "(x : !)", "(x : T!", "(x : T !: S)", "((x)!", "(x !, y)", "(x !:= y)",
		"x.!", "x. !y", "x . !{y}", "x . !_", "x.!0", "x.!000", "x.!(y)", "x.1.!", "x.1.!0", "x.!.1",
		"!101", "!999", "f !101", "(!101)", "a + !200", "f 100 !101",
		"a + !", "a + !+ b", "a * !", "a * !* b", "a = !", "a = b !=", "a = b != c", `a /\ !`, `a \/ !`, "a -> !", "a -> !-> b", `a /\ !\/ b`, "a = b + c != d", "a = b -> c = d != e",
	} {
		holdMarked(t, parseForm, marked)
	}
}

func TestParseFormBinderMistakes(t *testing.T) {
	for _, marked := range []string{
		"fun!", "fun !=> x", "fun !: T => x", "fun !a.b => x", "fun !3 => x", "fun !Prop => x", "fun !fun => x", "fun x!", "fun x !: T => x", "fun x !, y", "fun x !-> y", "fun x !:= y", "fun x =>!", "fun x => !=> y", "fun x !x.y => x",
		"fun (!", "fun (!) => x", "fun (!: T) => x", "fun (x!", "fun (x !) => x", "fun (x !:= T) => x", "fun (x !=> x", "fun (x : !) => x", "fun (x : T!", "fun (x : T !} => x", "fun {x : T !) => x", "fun [x : T !) => x", "fun (x : T !, y : S) => x", "fun (x !, y : T) => x", "fun (x !a.b : T) => x", "fun (!(x) : T) => x", "fun (x !3 : T) => x", "fun (x : T) !, x", "fun (x : T)!",
		"forall!", "forall !x, y", "forall !_, y", "forall !, y", "forall (x : T)!", "forall (x : T) !=> y", "forall (x : T) !x, y", "forall (x : T),!", "forall (x : T) !-> y", "forall (!a.b : T), y", "forall {x !}, y", "forall [T !], y",
		"let!", "let !:= x; y", "let !a.b := x; y", "let !(x) := y; z", "let !3 := x; y", "let x!", "let x != y; z", "let x !=> y", "let x !y := z; w", "let x := !", "let x := !; y", "let x := y!", "let x := y !, z", "let x := y !=> z", "let x := y;!", "let x := y; !;", "let x : !:= y; z", "let x : T!", "let x : T !; z", "let x : T = y !; z",
	} {
		holdMarked(t, parseForm, marked)
	}
}

func TestParseFormLevelMistakes(t *testing.T) {
	for _, marked := range []string{
		"Sort!", "Sort !_", "Sort !Prop", "Sort !fun", "Sort !a.b", "Sort !Nat.succ", "Sort !)", "Sort !+ 1", "Sort !@u", "Sort !.1", "Sort !-> x",
		"Type !a.b", "Type !Nat.succ", "Type (!)", "Type (!_)", "Type (!Prop)", "Type (!a.b)", "Type (A !-> B)", "Type (A !B)", "Type (A!", "Type (A +!", "Type (A + !B)", "Type (A + !(1))", "Type (A + 1 !+ 2)", "Type (A !: B)", "Type (A !, B)", "Type (A !.1)", "Type (!fun x => x)", "Type (f !x)", "Type (3 !x)",
		"Sort u !(x)", "Sort u !(1, 2)", "Type u !(x)", "Type f !(u, v)", "Sort u'!(x)", "f Sort u !(x)", "Sort maxi !(1, 2)", "Sort (u !(x))",
		"Sort max!", "Sort max !u", "Sort max !1", "Sort max !)", "Sort max !.1", "Sort imax !u v", "Type max !x", "Type max !_", "Sort max(!", "Sort max(!)", "Sort max(u!", "Sort max(u !)", "Sort max(u !v)", "Sort max(u,!", "Sort max(u, !)", "Sort max(u, v!", "Sort max(u, v !, w)", "Sort max(u, v !v)", "Sort max(u + !v, w)", "Sort max(max !, u)", "Sort max(!_, u)", "Sort max(!Prop, u)", "Sort max((u !, v), w)", "Sort imax(u, imax !)",
		"Sort max(u, v) !: x", "f.{!", "f.{!}", "f.{!_}", "f.{!a.b}", "f.{!Prop}", "f.{!x.y}", "f.{u!", "f.{u !v}", "f.{u,!", "f.{u,!}", "f.{u, v!", "f.{u !)", "f.{u + !}", "f.{max !}", "f.{max !, u}", "f.{u !: T}", "f.{u !(v)}",
		"f.{a,b,c,d,e,f !, g}", "f.{a,b,c,d,e,f !,}", "f.{u,u,u,u,u,u !,u}", "@f.{max(a,b),c,d,e,f,g !,h}", "f.{1,2,3,4,5,max(6,7) !, 8}", "f.{u} !.{v}", "f. !{u}", "(f) !.{u}", "3 !.{u}", "_ !.{u}", "Type !.{u}", "x.1 !.{u}",
	} {
		holdMarked(t, parseForm, marked)
	}
	// The numbers of levels have no limit of their own.
	for _, text := range []string{"Sort 999", "Sort (u + 999)", "Type 64", "f.{999}", "Sort max(999, u + 999)"} {
		holdParseCode(t, parseForm, text, impl.CodeSize, 0)
	}
}

func TestParseFileMistakes(t *testing.T) {
	for _, marked := range []string{
		"!x", "!fun x => x", "!Prop", "!(", "!intro x", "!by", "!3", "!|", "quotient !x", "quotient !;", "quotient !:", "eval!", "eval !axiom", "eval x !: T", "eval x !:= y", "check!", "check !)", "check x !; y", "check x !| y",
		"axiom!", "axiom !_ : A", "axiom !3 : A", "axiom !: A", "axiom !fun : A", "axiom !(x : A) : B", "axiom a!", "axiom a !A", "axiom a !3 : A", "axiom a !:= A", "axiom a !x : A", "axiom a !_ : A", "axiom a :!", "axiom a : !:= b", "axiom a : A !:= b", "axiom a : A !| x => y", "axiom a : A !by refl", "axiom a : A !; x", "axiom a : A !, x", "axiom a !@b : A",
		"axiom a (!", "axiom a (!) : A", "axiom a (x !) : A", "axiom a (x!", "axiom a (x : A!", "axiom a (x : A !} : B", "axiom a {x : A !) : B", "axiom a (x : A) !x : B", "axiom a (x : A) !3 : B", "axiom a (x : A)!", "axiom a (!a.b : A) : B", "axiom a (x : A) !, B", "axiom a (x : A) !:= B", "axiom a (!_.x : A) : B",
		"axiom a.{!", "axiom a.{!} : A", "axiom a.{!_} : A", "axiom a.{!max} : A", "axiom a.{!imax} : A", "axiom a.{!a.b} : A", "axiom a.{!3} : A", "axiom a.{!Prop} : A", "axiom a.{!fun} : A", "axiom a.{u!", "axiom a.{u !v} : A", "axiom a.{u !+ 1} : A", "axiom a.{u,!", "axiom a.{u,!} : A", "axiom a.{u,!u} : A", "axiom a.{u,v,!u} : A", "axiom a.{u,v,w,!v} : A", "axiom a.{u,!_} : A", "axiom a.{u,!max} : A", "axiom a.{a,b,c,d,e,f!", "axiom a.{a,b,c,d,e,f !,g} : A", "axiom a.{a,b,c,d,e,f !,a} : A", "axiom a.{a,b,c,d,e,!a} : A", "axiom a.{u} !.{v} : A", "axiom a.{u} !v : A",
	} {
		holdMarked(t, parseFile, marked)
	}
}

func TestParseFileMistakesOfEachCommand(t *testing.T) {
	for _, marked := range []string{
		"def!", "def f!", "def f !:= x", "def f :!", "def f : A!", "def f : A !by refl", "def f : A !; x", "def f : A !) x", "def f : A :=!", "def f : A := !| x => y", "def f : A := x !| y => z", "def f : A := x !:= y", "def f (x : A) : B!", "def f (x : A) : B !| x => y", "def f (x : A) !3 : B", "def f {x : A} !| x => y",
		"def f 3!", "def f 3 !(x : A) : B", "def f 3 !4 : A", "def f 3 !:= x", "def f 3 : A!", "def f 3 : A !:= x", "def f 0 : A !:= x", "def f !51 : A | x => y", "def f !100 : A", "def f !999 : A", "def f.{u} !51 : A", "def f 3 !.{u} : A",
		"def f : A |!", "def f : A | !=> x", "def f : A | !, x => y", "def f : A | !fun => x", "def f : A | !@x => y", "def f : A | x!", "def f : A | x !: T => y", "def f : A | x !:= y", "def f : A | x !-> y", "def f : A | x !| y => z", "def f : A | x,!", "def f : A | x, !=> y", "def f : A | x, !, y => z", "def f : A | x =>!", "def f : A | x => !| y", "def f : A | x => y !, z", "def f : A | x => y !=> z", "def f : A | x => y !:= z", "def f : A | !101 => x", "def f : A | c !101 => x", "def f : A | (!101) => x", "def f : A | c 100 !999 => x",
		"def f : A | (!", "def f : A | (!) => x", "def f : A | (x!", "def f : A | (x !, y) => z", "def f : A | (x !=> y", "def f : A | (c d) !e => x", "def f : A | (c) !(d) => x", "def f : A | _ !x => y", "def f : A | 3 !x => y", "def f : A | c (d !: e) => x", "def f : A | c !. 1 => x", "def f : A | c !.{u} => x", "def f : A | !Prop => x", "def f : A | c !Type => x",
		"instance!", "instance !: A := x", "instance i!", "instance i !3 : A := x", "instance i : A!", "instance i : A !| x => y", "instance i : A !by refl", "instance i : A :=!",
		"theorem!", "theorem t !3 : A := x", "theorem t : A!", "theorem t : A !| x => y", "theorem t : A !; refl", "theorem t : A :=!", "theorem t : A := x !by refl", "theorem t : A := !by refl",
		"family!", "family !3 : A", "family F!", "family F !(x : A) : B", "family F !{x : A} : B", "family F !x : A", "family F !51 : A", "family F 3 !4 : A", "family F 3!", "family F :!", "family F : A !:= B", "family F : A |!", "family F : A | !: B", "family F : A | !_ : B", "family F : A | !3 : B", "family F : A | c!", "family F : A | c !(x : A) : B", "family F : A | c !x : B", "family F : A | c !.{u} : B", "family F : A | c :!", "family F : A | c : B !, d : C", "family F : A | c !=> B", "family F : A | c : B !=> C", "family F : A | c : B |!",
		"class!", "class C!", "class C !(x : A) : B", "class C !51 : A", "class C : A!", "class C : A !:= B", "class C : A !axiom x : y", "class C : A |!", "class C : A | !_ : B", "class C : A | c!", "class C : A | c :!", "class C : A | c : B !| d : C", "class C : A | c !=> B",
	} {
		holdMarked(t, parseFile, marked)
	}
}

func TestParseFileMistakesOfTactics(t *testing.T) {
	for _, marked := range []string{
		"by!", "by !;", "by !run", "by !_", "by !3", "by !fun x => x", "by !(intro x)", "by !Intro x", "by !intros", "by !intro.x", "by !let", "by !axiom", "by !| x",
		"by intro!", "by intro !;", "by intro !3", "by intro !a.b", "by intro !(x)", "by intro !Prop", "by intro x !y", "by intro x !: T", "by intro x !, y", "by intro x;!", "by intro x; !;", "by intro x; !x", "by intro x; !by",
		"by exact!", "by exact !;", "by exact !axiom", "by exact x !: T", "by exact x !:= y", "by exact x !<- y", "by apply!", "by apply !<- x", "by apply x !| y", "by rewrite!", "by rewrite !;", "by rewrite !-> x", "by rewrite <-!", "by rewrite <- !<- x", "by rewrite <- !;", "by rewrite x !<- y",
		"by induction!", "by induction !3", "by induction !x.y", "by induction x !y", "by cases!", "by cases !(x)", "by cases x !| y => z", "by assumption !x", "by refl !x", "by refl !: x", "by constructor !3", "by refl;!", "by refl; refl;!", "by refl !refl",
		"by have!", "by have !: A := b", "by have !a.b : A := c", "by have !3 : A := b", "by have x!", "by have x !:= b", "by have x !y : A := b", "by have x :!", "by have x : !:= b", "by have x : A!", "by have x : A !; refl", "by have x : A :=!", "by have x : A := !;", "by have x : A := b !:= c", "by have !(x : A) := b",
	} {
		holdMarked(t, parseFile, "theorem t : A "+marked)
		holdMarked(t, parseFile, "theorem t.{u} (x : A) {y : B} : C by refl; "+strings.TrimPrefix(strings.TrimPrefix(marked, "by"), " "))
	}
}

// The codes come in their order: of the length, of a token, of the first token
// with which no text can go on, of the tree.
func TestParseCodesInOrder(t *testing.T) {
	for _, c := range []struct {
		text     string
		code, at int
	}{
		{"x ) ?", impl.CodeText, 4},
		{"x ) 1000", impl.CodeText, 4},
		{") - x", impl.CodeText, 2},
		{"Sort 70 ?", impl.CodeText, 8},
		{"Sort 70 )", impl.CodeText, 8},
		{"(Sort 70", impl.CodeText, 8},
		{"f.{70} = f.{70} = x", impl.CodeText, 16},
		{"Sort 70", impl.CodeSize, 0},
		{"x" + strings.Repeat(".1", impl.MaxTall+1) + " )", impl.CodeText, 2*impl.MaxTall + 4},
		{"x" + strings.Repeat(".1", impl.MaxTall+1) + ".0", impl.CodeText, 2*impl.MaxTall + 4},
		{strings.Repeat("f ", impl.MaxTrees) + ")", impl.CodeText, 2 * impl.MaxTrees},
		{strings.Repeat("f ", impl.MaxTrees) + "+", impl.CodeText, 2*impl.MaxTrees + 1},
		{strings.Repeat("f ", impl.MaxTrees) + "?", impl.CodeText, 2 * impl.MaxTrees},
		{strings.Repeat("f ", impl.MaxTrees), impl.CodeSize, 0},
		{strings.Repeat(")", impl.MaxSource), impl.CodeText, 0},
		{strings.Repeat(")", impl.MaxSource+1), impl.CodeSize, 0},
		{strings.Repeat("?", impl.MaxSource+1), impl.CodeSize, 0},
	} {
		holdParseCode(t, parseForm, c.text, c.code, c.at)
		front := "eval "
		if len(c.text) > impl.MaxSource {
			front = ""
		}
		at := c.at
		if c.code == impl.CodeText {
			at += len(front)
		}
		if len(front+c.text) > impl.MaxSource {
			holdParseCode(t, parseFile, front+c.text, impl.CodeSize, 0)
		} else {
			holdParseCode(t, parseFile, front+c.text, c.code, at)
		}
	}
}

func TestParseEndsTooEarly(t *testing.T) {
	for _, behind := range []string{"", " ", "\n", "-- x", "\n\n  ", " --", strings.Repeat(" ", 1000)} {
		for _, text := range []string{"", "(x", "fun x =>", "f.{u,", "x .", "a +", "let x := y ;", "Sort", "Sort max(", "forall (x : A)"} {
			holdParseCode(t, parseForm, text+behind, impl.CodeText, len(text+behind))
		}
		for _, text := range []string{"axiom", "axiom a", "def f : A", "def f 3 : A", "theorem t : A by", "theorem t : A by refl ;", "class C : A", "family F : A |", "eval", "def f : A | x"} {
			holdParseCode(t, parseFile, text+behind, impl.CodeText, len(text+behind))
		}
	}
	holdParseCode(t, parseForm, strings.Repeat(" ", impl.MaxSource), impl.CodeText, impl.MaxSource)
	holdParseCode(t, parseForm, strings.Repeat("(", impl.MaxSource), impl.CodeText, impl.MaxSource)
	holdParseCode(t, parseForm, "x"+strings.Repeat("->x", impl.MaxSource/3-1)+"->", impl.CodeText, 3*(impl.MaxSource/3))
	if tree, code, at := impl.ParseForm(nil); code != impl.CodeText || at != 0 || len(tree.Forms) != 0 {
		t.Errorf("nil: code %d at %d", code, at)
	}
}
