package tests

import (
	"slices"
	"strconv"
	"strings"
	"testing"
	"time"

	"loop.example/g00005/impl"
)

func TestHeightByHand(t *testing.T) {
	e := behind(sampleEnv(),
		declared(impl.KindDef, "empty", "", "*1", "*0"),
		declared(impl.KindDef, "typed", "", "[[[Eq{1} Nat] four] empty]", "Nat.zero"),
		declared(impl.KindDef, "proven", "", "*1", "[easy thm]"),
	)
	e.Decls = slices.Insert(e.Decls, len(e.Decls)-1, declared(impl.KindTheorem, "thm", "", "*1", "[four four]"))
	e = behind(e,
		declared(impl.KindDef, "mixed", "", "*1", "[[[proven two] four] empty]"),
		declared(impl.KindDef, "deep", "", "*1", "[^ x 0 mixed [= y Nat [! z 0 Nat #1] [. Prod 0 #0]]]"),
		declared(impl.KindDef, "inLet", "", "*1", "[= y Nat deep #0]"),
		declared(impl.KindDef, "inProj", "", "*1", "[. Prod 1 [. Prod 0 inLet]]"),
		declared(impl.KindDef, "made", "", "*1", "[[Quot.sound{0} Prod.mk{0,0}] [Nat.rec{0} some]]"),
		declared(impl.KindAxiom, "last", "", "inProj", ""),
		declared(impl.KindDef, "over", "", "last", "last"),
		family("Holds", "", 0, "[! x 0 deep *1]", "holds", "[Holds four]"),
		declared(impl.KindDef, "held", "", "*1", "[[Holds holds] Holds.rec{1}]"),
	)
	holdEnv(t, "heights", e, true)
	for name, want := range map[string]int{
		"Nat": 0, "Nat.zero": 0, "Nat.succ": 0, "Nat.rec": 0, "some": 0, "easy": 0, "thm": 0, "Eq": 0, "Eq.refl": 0, "Eq.rec": 0, "many": 0,
		"Quot": 0, "Quot.mk": 0, "Quot.lift": 0, "Quot.ind": 0, "Quot.sound": 0, "Prod": 0, "nowhere": 0, "": 0, "last": 0, "Holds": 0, "holds": 0, "Holds.rec": 0,
		"two": 1, "four": 2, "id": 1, "empty": 1, "typed": 1, "proven": 1, "mixed": 3, "deep": 4, "inLet": 5, "inProj": 6, "made": 1, "over": 1, "held": 1,
	} {
		if got := impl.Height(e, name); got != want {
			t.Errorf("%s: height %d, not %d", name, got, want)
		}
		if got := impl.Height(behind(e, e.Decls[2]), name); got != 0 {
			t.Errorf("%s: height %d in a broken environment", name, got)
		}
	}
	holdConstants(t, "heights", e)
}

// hanging has axioms a to h, and constants that hang on them in one way each.
func hanging() impl.Env {
	var decls []impl.Decl
	for _, name := range strings.Split("a b c d e f g h", " ") {
		decls = append(decls, point(name))
	}
	return behind(envOf(decls...),
		declared(impl.KindDef, "byType", "", "[! x 0 a *1]", "*0"),
		declared(impl.KindDef, "byValue", "", "*1", "[^ x 0 b #0]"),
		declared(impl.KindTheorem, "proof", "", "*0", "[= x *1 c #0]"),
		declared(impl.KindTheorem, "claim", "", "d", "*0"),
		family("F", "", 0, "[! x 0 e *1]", "F.one", "[F *0]", "F.two", "[! y 0 f [F *1]]"),
		family("S", "", 0, "*1", "S.mk", "[! x 0 g S]"),
		declared(impl.KindDef, "projects", "", "*1", "[. S 0 h]"),
		eqFamily(),
		quotients(),
		declared(impl.KindAxiom, "z", "", "[F S]", ""),
		declared(impl.KindAxiom, "y", "", "*1", ""),
		declared(impl.KindDef, "viaQuot", "u", "*1", "[y Quot{u}]"),
		declared(impl.KindDef, "viaLift", "", "Quot.lift{0,1}", "[proof claim]"),
		declared(impl.KindDef, "viaSound", "", "*1", "[[Quot.sound{0} z] a]"),
		declared(impl.KindDef, "all", "", "[viaSound [viaSound byType]]", "[[[viaLift y] [projects byValue]] [viaQuot{0} y]]"),
		declared(impl.KindDef, "none", "", "*1", "Eq.rec{0}"),
		declared(impl.KindDef, "ctor", "", "*1", "F.one"),
		declared(impl.KindDef, "again", "", "ctor", "ctor"),
		declared(impl.KindDef, "recursor", "", "*1", "S.rec{0}"),
	)
}

func TestAxiomsByHand(t *testing.T) {
	e := hanging()
	holdEnv(t, "axioms", e, true)
	for name, want := range map[string]string{
		"a": "a", "h": "h", "y": "y", "z": "e f g z", "byType": "a", "byValue": "b", "proof": "c", "claim": "d",
		"F": "e f", "F.one": "e f", "F.two": "e f", "F.rec": "e f", "S": "g", "S.mk": "g", "S.rec": "g",
		"projects": "h", "Eq": "", "Eq.refl": "", "Eq.rec": "", "none": "", "ctor": "e f", "again": "e f", "recursor": "g",
		"Quot": "Quot.sound", "Quot.mk": "Quot.sound", "Quot.lift": "Quot.sound", "Quot.ind": "Quot.sound", "Quot.sound": "Quot.sound",
		"viaQuot": "Quot.sound y", "viaLift": "c d Quot.sound", "viaSound": "a e f g Quot.sound z", "all": "a b c d e f g h Quot.sound z y",
	} {
		got, ok := impl.AxiomsOf(e, name)
		if !ok || strings.Join(got, " ") != want || len(got) != len(strings.Fields(want)) {
			t.Errorf("%s: %v, %v, not %s", name, got, ok, want)
		}
		got, ok = impl.AxiomsOf(behind(e, point("a")), name)
		if ok || len(got) != 0 {
			t.Errorf("%s: %v, %v in a broken environment", name, got, ok)
		}
	}
	for _, name := range []string{"", "nowhere", "Quot.rec", "a.rec", "S.mk.rec"} {
		holdAbsent(t, "axioms", e, name, impl.CodeConst)
	}
	holdConstants(t, "axioms", e)
}

// An axiom with the name of one of the quotients is but an axiom.
func TestAxiomsOfQuotientNames(t *testing.T) {
	e := envOf(point("Quot.sound"), point("Quot.mk"), declared(impl.KindDef, "d", "", "Quot.mk", "*0"), declared(impl.KindDef, "f", "", "Quot.sound", "Quot.mk"))
	for name, want := range map[string]string{"Quot.sound": "Quot.sound", "Quot.mk": "Quot.mk", "d": "Quot.mk", "f": "Quot.sound Quot.mk"} {
		if got, ok := impl.AxiomsOf(e, name); !ok || strings.Join(got, " ") != want {
			t.Errorf("%s: %v, %v", name, got, ok)
		}
	}
}

// doubling is a chain in which each has the one in front of it twice, in its
// Type, its Value or its constructors.
func doubling(link func(name, before string) impl.Decl) impl.Env {
	e := envOf(point("c0"), point("apart"))
	for i := 1; i < impl.MaxDecls-1; i++ {
		e.Decls = append(e.Decls, link("c"+strconv.Itoa(i), "c"+strconv.Itoa(i-1)))
	}
	return e
}

func TestLongChains(t *testing.T) {
	last := "c" + strconv.Itoa(impl.MaxDecls-2)
	for what, c := range map[string]struct {
		link   func(name, before string) impl.Decl
		height int
		kind   int
	}{
		"values": {func(name, before string) impl.Decl {
			return declared(impl.KindDef, name, "", "*1", "["+before+" "+before+"]")
		}, impl.MaxDecls - 2, impl.InfoDef},
		"types": {func(name, before string) impl.Decl {
			return declared(impl.KindDef, name, "", "["+before+" "+before+"]", "*1")
		}, 1, impl.InfoDef},
		"theorems": {func(name, before string) impl.Decl {
			return declared(impl.KindTheorem, name, "", "[! x 0 "+before+" "+before+"]", "["+before+" "+before+"]")
		}, 0, impl.InfoTheorem},
		"constructors": {func(name, before string) impl.Decl {
			return family(name, "", 0, "*1", name+".mk", "[! x 0 "+before+" [! y 0 "+before+" "+name+"]]")
		}, 0, impl.InfoFamily},
	} {
		e := doubling(c.link)
		begin := time.Now()
		if !impl.EnvOk(e) {
			t.Errorf("%s: not valid", what)
		}
		if got := impl.Height(e, last); got != c.height {
			t.Errorf("%s: height %d", what, got)
		}
		if got, ok := impl.AxiomsOf(e, last); !ok || !slices.Equal(got, []string{"c0"}) {
			t.Errorf("%s: %v, %v", what, got, ok)
		}
		if info, ok := impl.Find(e, last); !ok || info.Kind != c.kind || info.Decl != impl.MaxDecls-1 {
			t.Errorf("%s: %v, %v", what, info, ok)
		}
		if _, code := impl.ConstType(e, last, nil); code != 0 || !impl.Known(e, app(constant(last), constant("c0")), 0) {
			t.Errorf("%s: code %d", what, code)
		}
		if spent := time.Since(begin); spent > 5*time.Second {
			t.Errorf("%s: %v", what, spent)
		}
		longer := behind(e, point("one.more"))
		if impl.EnvOk(longer) || impl.Height(longer, last) != 0 {
			t.Errorf("%s: one more is valid", what)
		}
	}
}

// Great terms of many declarations are gone through once each.
func TestGreatEnvironment(t *testing.T) {
	e := envOf(point("c"))
	for i := range 20 {
		d := declared(impl.KindDef, "d"+strconv.Itoa(i), "", "*1", "*1")
		d.Type = spread(impl.MaxNodes/2-1, constant("c"))
		d.Value = spread(impl.MaxNodes/2-1, constant("c"))
		if i > 0 {
			d.Value = spread(impl.MaxNodes/2-1, constant("d"+strconv.Itoa(i-1)))
		}
		e.Decls = append(e.Decls, d)
	}
	begin := time.Now()
	if !impl.EnvOk(e) || impl.Height(e, "d19") != 20 {
		t.Errorf("a great environment is not valid, or has another height")
	}
	if got, ok := impl.AxiomsOf(e, "d19"); !ok || !slices.Equal(got, []string{"c"}) {
		t.Errorf("%v, %v", got, ok)
	}
	if spent := time.Since(begin); spent > 20*time.Second {
		t.Errorf("%v", spent)
	}
}
