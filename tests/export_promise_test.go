package tests

import (
	"math/rand"
	"slices"
	"testing"

	"loop.example/g00005/impl"
)

// holdThereAndBack is promise 14 for an environment that AddAll takes.
func holdThereAndBack(t *testing.T, what string, e impl.Env, fuel int) []byte {
	t.Helper()
	text, ok := impl.Export(e)
	if !ok || string(text) != slowExport(e) {
		t.Fatalf("%s: %v, or another text", what, ok)
	}
	all, _, code := impl.AddAll(e.Decls, fuel)
	if code != 0 {
		t.Fatalf("%s: code %d", what, code)
	}
	back, line, code := impl.Import(text, fuel)
	if line != 0 || code != 0 || !equalEnvs(back, e) || !equalEnvs(back, all) {
		t.Fatalf("%s: code %d at line %d, or another environment", what, code, line)
	}
	if again, ok := impl.Export(back); !ok || string(again) != string(text) {
		t.Fatalf("%s: the second text is another one", what)
	}
	return text
}

// Promise 14: Import of Export is the environment.
func TestImportOfExport(t *testing.T) {
	t.Parallel()
	for what, e := range map[string]impl.Env{
		"none":         {},
		"kinds":        envOf(exportDecls()...),
		"sample":       envOf(slices.DeleteFunc(sampleEnv().Decls, func(d impl.Decl) bool { return d.Name == "many" || d.Name == "Six" })...),
		"the kernel's": claimEnv(),
		"named":        behind(claimEnv(), namedContext()...),
		"many":         envOf(manyAxioms(impl.MaxDecls)...),
	} {
		holdThereAndBack(t, what, e, impl.MaxFuel)
		for i := range e.Decls {
			if i < 20 {
				holdThereAndBack(t, what, envOf(e.Decls[:i]...), impl.MaxFuel)
			}
		}
	}
	for _, d := range append(richDecls(), quotients()) {
		holdThereAndBack(t, d.Name, behind(withoutQuotients(), d), impl.MaxFuel)
	}
	for _, d := range formedFamilies() {
		e := behind(envOf(natFamily()), d)
		if d.Name == "Nat" {
			e = envOf(d)
		}
		if _, _, code := impl.AddAll(e.Decls, impl.MaxFuel); code == 0 {
			holdThereAndBack(t, d.Name, e, impl.MaxFuel)
		}
	}
	r := rand.New(rand.NewSource(122))
	for i := range 12 {
		m := takenEnv(t, r, 20)
		holdThereAndBack(t, "taken", m.e, impl.MaxFuel)
		// what a fuel is enough for is read with it, and with no less
		fuel := []int{0, 1, 3, 10, 30, 100}[i%6]
		text, _ := impl.Export(m.e)
		holdImportOf(t, m.e, string(text), fuel)
	}
}

// holdImportOf is for a text of Export: what AddAll says of the environment is
// told at the declaration's line.
func holdImportOf(t *testing.T, e impl.Env, text string, fuel int) int {
	t.Helper()
	want, at, code := impl.AddAll(e.Decls, fuel)
	line := 0
	if code != 0 {
		line = 1
		for _, d := range e.Decls[:at] {
			line += 1 + len(d.Ctors)
		}
	}
	got, gotLine, gotCode := impl.Import([]byte(text), fuel)
	if gotLine != line || gotCode != code || !equalEnvs(got, want) {
		t.Errorf("%q, fuel %d: code %d at line %d, not code %d at line %d", short(text), fuel, gotCode, gotLine, code, line)
	}
	return code
}

// Environments of any kind: those that are not valid have no text, and what Add
// refuses is told at its line.
func TestImportOfExportOfAnyEnvironment(t *testing.T) {
	t.Parallel()
	r := rand.New(rand.NewSource(123))
	counts := checkCounts{}
	invalid := 0
	for i := range 400 {
		m := randomEnv(r)
		e := m.e
		if i%2 == 0 {
			e = m.spoiltEnv()
		}
		text, ok := impl.Export(e)
		if ok != impl.EnvOk(e) {
			t.Fatalf("environment %d: %v", i, ok)
		}
		if !ok {
			invalid++
			holdNoExport(t, "not valid", e)
			continue
		}
		holdExport(t, "valid", e, slowExport(e))
		fuel := []int{0, 3, 50, impl.MaxFuel}[r.Intn(4)]
		counts[holdImportOf(t, e, string(text), fuel)]++
		holdSlowImport(t, string(text), fuel)
	}
	counts.holdMet(t, 10, impl.CodeSort, impl.CodeFun)
	counts.holdMet(t, 3, 0)
	if invalid < 30 {
		t.Errorf("only %d that are not valid", invalid)
	}
}

// holdChanged changes one byte of a text.
func holdChanged(t *testing.T, text []byte, place int, b byte) {
	t.Helper()
	was := text[place]
	text[place] = b
	e, line, code := impl.Import(text, impl.MaxFuel)
	text[place] = was
	if code == 0 || len(e.Decls) != 0 {
		t.Fatalf("byte %d, %q, changed to %q: code %d, %d declarations", place, was, b, code, len(e.Decls))
	}
	if code != impl.CodeSum && code != impl.CodeText {
		t.Fatalf("byte %d, %q, changed to %q: code %d at line %d", place, was, b, code, line)
	}
}

// Promise 14: a text of Export with one byte changed is refused. Here each byte
// is changed to each other one.
func TestImportOfEachChangedByte(t *testing.T) {
	t.Parallel()
	decls := exportDecls()
	for _, e := range []impl.Env{{}, envOf(decls[0]), envOf(decls[:3]...), envOf(decls[3:5]...), envOf(decls[7], decls[10]), envOf(manyAxioms(3)...), envOf(manyAxioms(10)...)} {
		text := holdThereAndBack(t, "short", e, 100)
		for place, was := range text {
			for b := range 256 {
				if byte(b) != was {
					holdChanged(t, text, place, byte(b))
				}
			}
		}
		holdImported(t, string(text), 100, e)
	}
}

// The same for longer texts, with some other bytes, and by the slow way.
func TestImportOfSomeChangedBytes(t *testing.T) {
	t.Parallel()
	r := rand.New(rand.NewSource(124))
	for _, e := range []impl.Env{envOf(exportDecls()...), claimEnv(), takenEnv(t, r, 12).e, takenEnv(t, r, 12).e} {
		text := holdThereAndBack(t, "long", e, impl.MaxFuel)
		for place, was := range text {
			for _, b := range []byte{was + 1, was - 1, was ^ 32, was ^ 128, '\n', ' ', '0', 's', 0, byte(r.Intn(256))} {
				if b != was {
					holdChanged(t, text, place, b)
				}
			}
			if place%37 == 0 {
				changed := slices.Clone(text)
				changed[place]++
				holdSlowImport(t, string(changed), impl.MaxFuel)
			}
		}
	}
}
