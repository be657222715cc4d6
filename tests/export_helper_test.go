package tests

import (
	"regexp"
	"slices"
	"strconv"
	"strings"
	"testing"

	"loop.example/g00005/impl"
)

// slowSum goes from the last byte to the first, with the power that each one has.
func slowSum(text string) int {
	sum, power := 0, 1
	for i := len(text) - 1; i >= 0; i-- {
		sum = (sum + power*(int(text[i])+1)) % 1000003
		power = power * 257 % 1000003
	}
	return sum
}

// summed has the line behind a text that should stand there.
func summed(text string) string {
	return text + "sum " + strconv.Itoa(slowSum(text)) + "\n"
}

// slowLines are the lines of a shaped declaration.
func slowLines(d impl.Decl) []string {
	params := "-"
	if len(d.Params) > 0 {
		params = strings.Join(d.Params, ",")
	}
	switch d.Kind {
	case impl.KindAxiom:
		return []string{"axiom " + d.Name + " " + params + " " + written(d.Type)}
	case impl.KindDef:
		return []string{"def " + d.Name + " " + params + " " + written(d.Type) + " " + written(d.Value)}
	case impl.KindTheorem:
		return []string{"theorem " + d.Name + " " + params + " " + written(d.Type) + " " + written(d.Value)}
	case impl.KindFamily:
		lines := []string{"family " + d.Name + " " + params + " " + strconv.Itoa(d.Fixed) + " " + written(d.Type)}
		for _, c := range d.Ctors {
			lines = append(lines, "ctor "+c.Name+" "+written(c.Type))
		}
		return lines
	}
	return []string{"quot"}
}

// slowExport is for a valid environment, whatever its text's length.
func slowExport(e impl.Env) string {
	text := ""
	for _, d := range e.Decls {
		text += strings.Join(slowLines(d), "\n") + "\n"
	}
	return summed(text)
}

var (
	sumForm    = regexp.MustCompile(`^sum ([0-9]{1,7})$`)
	plainForm  = regexp.MustCompile(`^(axiom|def|theorem) ([^ ]+) ([^ ]+) (.*)$`)
	familyForm = regexp.MustCompile(`^family ([^ ]+) ([^ ]+) ([0-9]{1,3}) (.*)$`)
	ctorForm   = regexp.MustCompile(`^ctor ([^ ]+) (.*)$`)
	paramsForm = regexp.MustCompile(`^[^ ,]+(,[^ ,]+)*$`)
)

// slowTerms reads so many terms: it tries every way to part the tokens.
func slowTerms(text string, count int) ([]impl.Term, bool) {
	if count == 1 {
		x, code, _ := impl.ParseTerm([]byte(text))
		return []impl.Term{x}, code == 0
	}
	for _, place := range tokenForm.FindAllStringIndex(text, -1) {
		first, ok := slowTerms(text[:place[1]], 1)
		if rest, good := slowTerms(text[place[1]:], count-1); ok && good {
			return append(first, rest...), true
		}
	}
	return nil, false
}

func slowParamList(text string) ([]string, bool) {
	if text == "-" {
		return nil, true
	}
	return strings.Split(text, ","), paramsForm.MatchString(text)
}

// slowDecl reads the first line of a declaration.
func slowDecl(line string) (impl.Decl, bool) {
	if line == "quot" {
		return quotients(), true
	}
	kinds := map[string]int{"axiom": impl.KindAxiom, "def": impl.KindDef, "theorem": impl.KindTheorem}
	if parts := plainForm.FindStringSubmatch(line); parts != nil {
		d := impl.Decl{Kind: kinds[parts[1]], Name: parts[2]}
		count := 2
		if d.Kind == impl.KindAxiom {
			count = 1
		}
		terms, ok := slowTerms(parts[4], count)
		if !ok {
			return d, false
		}
		d.Type = terms[0]
		if count == 2 {
			d.Value = terms[1]
		}
		d.Params, ok = slowParamList(parts[3])
		return d, ok
	}
	parts := familyForm.FindStringSubmatch(line)
	if parts == nil {
		return impl.Decl{}, false
	}
	d := impl.Decl{Kind: impl.KindFamily, Name: parts[1]}
	d.Fixed, _ = strconv.Atoi(parts[3])
	terms, good := slowTerms(parts[4], 1)
	params, ok := slowParamList(parts[2])
	d.Type, d.Params = terms[0], params
	return d, ok && good
}

// slowImport follows the list of the document.
func slowImport(text string, fuel int) (impl.Env, int, int) {
	switch {
	case fuel < 0 || fuel > 100000:
		return impl.Env{}, 0, impl.CodeInput
	case len(text) > 400000:
		return impl.Env{}, 0, impl.CodeSize
	case !strings.HasSuffix(text, "\n"):
		return impl.Env{}, 0, impl.CodeText
	}
	lines := strings.SplitAfter(text, "\n")
	lines = lines[:len(lines)-1]
	last := len(lines) - 1
	sum := sumForm.FindStringSubmatch(strings.TrimSuffix(lines[last], "\n"))
	if sum == nil {
		return impl.Env{}, last + 1, impl.CodeText
	}
	if n, _ := strconv.Atoi(sum[1]); n != slowSum(strings.Join(lines[:last], "")) {
		return impl.Env{}, last + 1, impl.CodeSum
	}
	return slowImportLines(lines[:last], fuel)
}

func slowImportLines(lines []string, fuel int) (impl.Env, int, int) {
	var decls []impl.Decl
	var firsts []int
	for i, line := range lines {
		line = strings.TrimSuffix(line, "\n")
		if parts := ctorForm.FindStringSubmatch(line); parts != nil {
			terms, ok := slowTerms(parts[2], 1)
			if !ok || len(decls) == 0 || decls[len(decls)-1].Kind != impl.KindFamily {
				return impl.Env{}, i + 1, impl.CodeText
			}
			d := &decls[len(decls)-1]
			d.Ctors = append(d.Ctors, impl.Ctor{Name: parts[1], Type: terms[0]})
			continue
		}
		d, ok := slowDecl(line)
		if !ok {
			return impl.Env{}, i + 1, impl.CodeText
		}
		decls, firsts = append(decls, d), append(firsts, i+1)
	}
	e, at, code := impl.AddAll(decls, fuel)
	if code != 0 {
		return impl.Env{}, firsts[at], code
	}
	return e, 0, 0
}

// holdExport holds the text of an environment.
func holdExport(t *testing.T, what string, e impl.Env, want string) {
	t.Helper()
	before := copyEnv(e)
	got, ok := impl.Export(e)
	if !ok || string(got) != want {
		t.Errorf("%s: %v, and the text\n%s, not\n%s", what, ok, short(string(got)), short(want))
	}
	if !equalEnvs(e, before) {
		t.Errorf("%s: the environment was changed", what)
	}
}

func holdNoExport(t *testing.T, what string, e impl.Env) {
	t.Helper()
	if got, ok := impl.Export(e); ok || len(got) != 0 {
		t.Errorf("%s: %d bytes and %v", what, len(got), ok)
	}
}

// holdImported is for a text that is read as an environment.
func holdImported(t *testing.T, text string, fuel int, want impl.Env) {
	t.Helper()
	got, line, code := impl.Import([]byte(text), fuel)
	if line != 0 || code != 0 || !equalEnvs(got, want) {
		t.Errorf("%q: code %d at line %d, or another environment", short(text), code, line)
	}
}

// holdImport holds the line and the code, by both ways.
func holdImport(t *testing.T, text string, fuel, line, code int) {
	t.Helper()
	got, gotLine, gotCode := impl.Import([]byte(text), fuel)
	if gotLine != line || gotCode != code {
		t.Errorf("%q, fuel %d: code %d at line %d, not code %d at line %d", short(text), fuel, gotCode, gotLine, code, line)
	}
	if code != 0 && len(got.Decls) != 0 {
		t.Errorf("%q: a code, and %d declarations", short(text), len(got.Decls))
	}
	holdSlowImport(t, text, fuel)
}

// holdSlowImport holds all that Import answers against the slow way, and gives
// the code.
func holdSlowImport(t *testing.T, text string, fuel int) int {
	t.Helper()
	got, gotLine, gotCode := impl.Import([]byte(text), fuel)
	want, line, code := slowImport(text, fuel)
	if gotLine != line || gotCode != code || !equalEnvs(got, want) {
		t.Errorf("%q, fuel %d: code %d at line %d, or another environment; by the slow way code %d at line %d", short(text), fuel, gotCode, gotLine, code, line)
	}
	return code
}

// natText are the lines of the natural numbers: three.
const natText = "family Nat - 0 *1\nctor Nat.zero Nat\nctor Nat.succ [! n 0 Nat Nat]\n"

// eqText are the lines of the equality: two.
const eqText = "family Eq u 2 " + eqType + "\nctor Eq.refl " + eqRefl + "\n"

// lineCase is a line with the code that it has behind the natural numbers; code 0
// when nothing is wrong with it.
type lineCase struct {
	line string
	code int
}

func holdLines(t *testing.T, cases []lineCase) {
	t.Helper()
	for _, c := range cases {
		line := 4
		if c.code == 0 {
			line = 0
		}
		holdImport(t, summed(natText+c.line+"\n"), 1000, line, c.code)
		// another line in front, and others behind
		if c.code != 0 {
			line++
		}
		holdImport(t, summed(natText+"axiom front - Nat\n"+c.line+"\naxiom behind - Nat\n"), 1000, line, c.code)
		if c.code == impl.CodeText {
			holdImport(t, summed(natText+"axiom Nat - Nat\n"+c.line+"\nwhat\n"), 1000, line, c.code)
		}
	}
}

// exportDecls has declarations of every kind that AddAll takes, with no Params,
// one and several, and with no constructor, one and several.
func exportDecls() []impl.Decl {
	return slices.Concat(
		[]impl.Decl{
			natFamily(),
			family("False", "", 0, "*0"),
			family("Unit", "", 0, "*1", "Unit.star", "Unit"),
			eqFamily(),
			quotients(),
			prodFamily(),
			declared(impl.KindDef, "two", "", "Nat", "[Nat.succ [Nat.succ Nat.zero]]"),
			declared(impl.KindDef, "id", "u", "[! A 1 *u [! a 0 #0 #1]]", "[^ A 1 *u [^ a 0 #0 #0]]"),
			declared(impl.KindTheorem, "easy", "", "[[[Eq{1} Nat] two] [Nat.succ [Nat.succ Nat.zero]]]", "[[Eq.refl{1} Nat] two]"),
			declared(impl.KindAxiom, "some", "", "Nat", ""),
		},
		[]impl.Decl{
			declared(impl.KindAxiom, "all", "a b_ c' d e f", "[! A 0 *max(a,b_) [! B 1 *imax(c',d)+2 [! x 2 #1 *7]]]", ""),
			declared(impl.KindDef, "fst", "u v", "[! A 0 *u+1 [! B 0 *v+1 [! p 0 [[Prod{u,v} #1] #0] #2]]]",
				"[^ A 0 *u+1 [^ B 0 *v+1 [^ p 0 [[Prod{u,v} #1] #0] [= q #2 [. Prod 0 #0] #0]]]]"),
			declared(impl.KindTheorem, "same", "w", "[! A 2 *w [! a 0 #0 [[[Eq{w} #1] #0] #0]]]", "[^ A 2 *w [^ a 0 #0 [[Eq.refl{w} #1] #0]]]"),
		})
}
