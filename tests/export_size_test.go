package tests

import (
	"slices"
	"strings"
	"testing"

	"loop.example/g00005/impl"
)

// longTower is a number of 78 bytes for each of so many functions within each
// other.
func longTower(f, n string, count int) impl.Term {
	text := strings.Repeat("[["+f+" "+n+"] ", count) + "Nat.zero" + strings.Repeat("]", count)
	return read(text)
}

// longEnv is an environment that AddAll takes, with a text of so many bytes: two
// long definitions, and behind them three axioms with names that make it fit.
func longEnv(t *testing.T, bytes int) impl.Env {
	t.Helper()
	f, n := strings.Repeat("f", 36), strings.Repeat("n", 36)
	front := []impl.Decl{natFamily(), declared(impl.KindAxiom, f, "", "[! a 0 Nat [! b 0 Nat Nat]]", ""), declared(impl.KindAxiom, n, "", "Nat", "")}
	with := func(count int, more ...string) impl.Env {
		e := behind(envOf(front...), newDef("Nat", "Nat"), newDef("Nat", "Nat"))
		e.Decls[3].Name, e.Decls[3].Value = "d", longTower(f, n, count/2)
		e.Decls[4].Name, e.Decls[4].Value = "e", longTower(f, n, count-count/2)
		for _, name := range more {
			e.Decls = append(e.Decls, declared(impl.KindAxiom, name, "", "Nat", ""))
		}
		return e
	}
	// the sum has six digits, mostly; three lines of axioms are 42 to 147 bytes
	room := bytes - len(slowExport(with(0))) - 42
	count, rest := room/78, room%78
	for _, letter := range "abcdghij" {
		var more []string
		left := rest
		for i := range 3 {
			more = append(more, strings.Repeat(string(letter+rune(10+i)), 1+min(left, 35)))
			left -= min(left, 35)
		}
		if e := with(count, more...); len(slowExport(e)) == bytes {
			return e
		}
	}
	t.Fatalf("no environment with a text of %d bytes", bytes)
	return impl.Env{}
}

// A text that has all the bytes that there is room for, and one byte more.
func TestExportToTheLimit(t *testing.T) {
	t.Parallel()
	for less := range 3 {
		e := longEnv(t, impl.MaxText-less)
		text := slowExport(e)
		holdExport(t, "at the limit", e, text)
		if less > 0 {
			continue
		}
		holdImported(t, text, impl.MaxFuel, e)
		holdImport(t, text+"\n", impl.MaxFuel, 0, impl.CodeSize)
		holdImport(t, " "+text, impl.MaxFuel, 0, impl.CodeSize)
		holdImport(t, text[:len(text)-1]+" ", impl.MaxFuel, 0, impl.CodeText)
		holdImport(t, "x"+text[1:], impl.MaxFuel, 11, impl.CodeSum)
	}
	for more := 1; more <= 14; more++ {
		e := longEnv(t, impl.MaxText+more)
		if !impl.EnvOk(e) {
			t.Fatalf("the environment is not valid")
		}
		holdNoExport(t, "over the limit", e)
		holdImport(t, slowExport(e), impl.MaxFuel, 0, impl.CodeSize)
	}
}

// What is too long may be one term, or all together, or the last line alone.
func TestExportFarOverTheLimit(t *testing.T) {
	t.Parallel()
	name := func(i int) string { return strings.Repeat(string(rune('a'+i)), impl.MaxName) }
	wide := chain(impl.LevelMax, name(0), name(1), name(2), name(3), name(4), name(5))
	for len(wide.Nodes) < impl.MaxLevel-2 {
		wide = pair(impl.LevelImax, wide, param(name(0)))
	}
	d := impl.Decl{Kind: impl.KindAxiom, Name: "a", Params: impl.LevelsOf(universe(wide)), Type: universe(wide)}
	holdExport(t, "a wide level", envOf(d), slowExport(envOf(d)))
	d.Type = spread(impl.MaxNodes/2-1, universe(wide))
	front := envOf(natFamily(), newAxiom("*1"))
	if !impl.EnvOk(envOf(d)) {
		t.Fatalf("the environment is not valid")
	}
	holdNoExport(t, "far too long", envOf(d))
	holdNoExport(t, "far too long", behind(front, d))
	holdNoExport(t, "far too long", behind(envOf(d), front.Decls...))
	d.Kind, d.Value, d.Type = impl.KindDef, d.Type, prop()
	holdNoExport(t, "a value", behind(front, d))
	// constructors, each of which has not much
	f, some := family("F", "", 0, "*1"), strings.Repeat("s", 36)
	front = behind(front, declared(impl.KindAxiom, some, "", "*1", ""))
	for i := range impl.MaxCtors {
		f.Ctors = append(f.Ctors, impl.Ctor{Name: name(i), Type: pi("x", 0, spread(430, constant(some)), constant("F"))})
	}
	if text := slowExport(behind(front, f)); !impl.EnvOk(behind(front, f)) || len(text) < impl.MaxText-100000 || len(text) > impl.MaxText {
		t.Fatalf("%d bytes", len(text))
	}
	holdExport(t, "a great family", behind(front, f), slowExport(behind(front, f)))
	g := copyDecl(f)
	g.Name = "G"
	for i := range g.Ctors {
		g.Ctors[i].Name = "G" + g.Ctors[i].Name[1:]
		g.Ctors[i].Type = pi("x", 0, spread(430, constant(some)), constant("G"))
	}
	holdNoExport(t, "two great families", behind(front, f, g))
	holdExport(t, "one of them", behind(front, g), slowExport(behind(front, g)))
	// many declarations, each of which has not much
	var many []impl.Decl
	for _, a := range manyAxioms(70) {
		a.Type = spread(1000, constant("new"))
		many = append(many, a)
	}
	holdExport(t, "some", behind(front, many[:48]...), slowExport(behind(front, many[:48]...)))
	holdNoExport(t, "many", behind(front, many...))
}

// Terms of as many nodes as there may be, and of one more.
func TestImportOfGreatTerms(t *testing.T) {
	t.Parallel()
	front := []impl.Decl{natFamily()}
	for _, d := range stepEnv().Decls {
		if slices.Contains([]string{"add", "Prod", "two"}, d.Name) {
			front = append(front, d)
		}
	}
	lines := strings.TrimSuffix(slowExport(envOf(front...)), "\n")
	lines = lines[:strings.LastIndex(lines, "\n")+1]
	line := strings.Count(lines, "\n") + 1
	for size := impl.MaxNodes - 1; size <= impl.MaxNodes+2; size++ {
		great := newDef("Nat", "Nat")
		great.Value = typedSized(size)
		if len(great.Value.Nodes) != size {
			t.Fatalf("%d nodes", len(great.Value.Nodes))
		}
		text := summed(lines + slowLines(great)[0] + "\n")
		if size > impl.MaxNodes {
			holdTold(t, text, line, impl.CodeText)
			holdTold(t, summed("axiom two - Nat\n"+lines+slowLines(great)[0]+"\nwhat\n"), line+1, impl.CodeText)
			holdNoExport(t, "a great term", behind(envOf(front...), great))
			continue
		}
		holdImported(t, text, impl.MaxFuel, behind(envOf(front...), great))
		holdExport(t, "a great term", behind(envOf(front...), great), text)
	}
	most, more := projsText(1, spreadText(impl.MaxNodes/2-1, "c")), spreadText(impl.MaxNodes/2, "c")
	for _, c := range []lineCase{
		{"axiom a - " + most, impl.CodeConst}, {"axiom a - " + more, impl.CodeText},
		{"def a - " + most + " " + most, impl.CodeConst}, {"def a - " + more + " c", impl.CodeText}, {"def a - c " + more, impl.CodeText}, {"theorem a - " + more + most, impl.CodeText},
		{"family F - 0 " + most, impl.CodeFamily}, {"family F - 0 " + more, impl.CodeText},
		{"family F - 0 *1\nctor a F\nctor c " + more, impl.CodeText}, {"family F - 0 *1\nctor a F\nctor c [! x 0 " + most + " F]", impl.CodeText},
	} {
		holdTold(t, summed(c.line+"\n"), 1+strings.Count(c.line, "\n"), c.code)
	}
}

// holdTold is for texts that the slow way is too slow for.
func holdTold(t *testing.T, text string, line, code int) {
	t.Helper()
	got, gotLine, gotCode := impl.Import([]byte(text), impl.MaxFuel)
	if gotLine != line || gotCode != code || code != 0 && len(got.Decls) != 0 {
		t.Errorf("%s: code %d at line %d, not code %d at line %d", short(text), gotCode, gotLine, code, line)
	}
}

// Many lines, deep brackets, long words: each is told at its line.
func TestImportOfOddTexts(t *testing.T) {
	t.Parallel()
	room := impl.MaxText - 40
	for _, c := range []struct {
		text       string
		line, code int
	}{
		{strings.Repeat("quot\n", room/5), 1, impl.CodeQuot},
		{eqText + strings.Repeat("quot\n", room/6), 4, impl.CodeName},
		{"axiom a - *1\n" + strings.Repeat("axiom b - *1\n", room/14), 3, impl.CodeName},
		{"family F - 0 *1\n" + strings.Repeat("ctor c F\n", room/10), 1, impl.CodeInput},
		{strings.Repeat("\n", room), 1, impl.CodeText},
		{strings.Repeat("axiom a - *1\n", 20000) + "\n", 20001, impl.CodeText},
		{"axiom a - " + strings.Repeat("[", room) + "\n", 1, impl.CodeText},
		{"axiom a - " + strings.Repeat("]", room) + "\n", 1, impl.CodeText},
		{"axiom a - " + strings.Repeat(" ", room) + "\n", 1, impl.CodeText},
		{"axiom a - " + strings.Repeat(" ", room/2) + "*1" + strings.Repeat(" ", room/2) + "\n", 0, 0},
		{"def a - " + strings.Repeat("[", room/2) + strings.Repeat("]", room/2) + "\n", 1, impl.CodeText},
		{"axiom " + strings.Repeat("a", room) + " - *1\n", 1, impl.CodeInput},
		{"axiom " + strings.Repeat("a", room) + "\n", 1, impl.CodeText},
		{"axiom a " + strings.Repeat("u,", room/2) + "u *1\n", 1, impl.CodeInput},
		{"axiom a " + strings.Repeat("u,", room/2) + " *1\n", 1, impl.CodeText},
		{"family F - " + strings.Repeat("0", room) + " *1\n", 1, impl.CodeText},
		{strings.Repeat("w", room) + "\n", 1, impl.CodeText},
		{strings.Repeat("axiom ", room/6) + "\n", 1, impl.CodeText},
	} {
		holdTold(t, summed(c.text), c.line, c.code)
	}
}
