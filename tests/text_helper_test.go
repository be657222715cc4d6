package tests

import (
	"regexp"
	"slices"
	"strconv"
	"strings"
	"testing"

	"loop.example/g00005/impl"
)

// text follows the table of the document.
func (x tree) text() string {
	var text strings.Builder
	x.writeTo(&text)
	return text.String()
}

func (x tree) writeTo(text *strings.Builder) {
	n := x.node
	switch n.K {
	case impl.TermVar:
		text.WriteString("#" + strconv.Itoa(n.N))
		return
	case impl.TermHole:
		text.WriteString("?" + strconv.Itoa(n.N))
		return
	case impl.TermSort:
		text.WriteString("*" + impl.LevelText(n.Levels[0]))
		return
	case impl.TermConst:
		text.WriteString(n.S + levelList(n.Levels))
		return
	}
	text.WriteString("[")
	switch n.K {
	case impl.TermLam:
		text.WriteString("^ " + n.S + " " + strconv.Itoa(n.M) + " ")
	case impl.TermPi:
		text.WriteString("! " + n.S + " " + strconv.Itoa(n.M) + " ")
	case impl.TermLet:
		text.WriteString("= " + n.S + " ")
	case impl.TermProj:
		text.WriteString(". " + n.S + " " + strconv.Itoa(n.N) + " ")
	}
	for i, kid := range x.kids {
		if i > 0 {
			text.WriteString(" ")
		}
		kid.writeTo(text)
	}
	text.WriteString("]")
}

func levelList(levels []impl.Level) string {
	if len(levels) == 0 {
		return ""
	}
	var texts []string
	for _, l := range levels {
		texts = append(texts, impl.LevelText(l))
	}
	return "{" + strings.Join(texts, ",") + "}"
}

func written(t impl.Term) string {
	return treeOf(t).text()
}

var tokenForm = regexp.MustCompile(`[\[\]]|[^\[\] \n]+`)

func tokensOf(text string) []string {
	return tokenForm.FindAllString(text, -1)
}

// tidy is the text of these tokens with no blank that could be missing.
func tidy(tokens []string) string {
	text := strings.Join(tokens, " ")
	text = strings.ReplaceAll(text, "[ ", "[")
	return strings.ReplaceAll(text, " ]", "]")
}

// slowStep is given what is still wanted, the next first, and a token; it gives
// what is wanted behind it, or false when the token can't stand there.
func slowStep(wanted []string, tok string) ([]string, bool) {
	if len(wanted) == 0 {
		return nil, false
	}
	rest := wanted[1:]
	before := func(front ...string) []string { return append(front, rest...) }
	switch wanted[0] {
	case "term":
		if tok == "[" {
			return before("inside"), true
		}
		return rest, slowLeaf(tok)
	case "inside":
		switch tok {
		case "^", "!":
			return before("short", "mode", "term", "term", "]"), true
		case "=":
			return before("short", "term", "term", "term", "]"), true
		case ".":
			return before("name", "number", "term", "]"), true
		}
		return slowStep(before("term", "term", "]"), tok)
	case "short":
		return rest, impl.ShortOk(tok)
	case "name":
		return rest, impl.NameOk(tok)
	case "mode":
		return rest, slowNumber(tok, 2)
	case "number":
		return rest, slowNumber(tok, impl.MaxNodes)
	}
	return rest, tok == "]"
}

var digitsForm = regexp.MustCompile(`^[0-9]{1,7}$`)

func slowNumber(text string, most int) bool {
	n, err := strconv.Atoi(text)
	return digitsForm.MatchString(text) && err == nil && n <= most
}

func slowLeaf(tok string) bool {
	switch tok[0] {
	case '#':
		return slowNumber(tok[1:], impl.MaxNodes)
	case '?':
		return slowNumber(tok[1:], impl.MaxHole)
	case '*':
		_, code := impl.ParseLevel(tok[1:])
		return code == 0
	}
	if i := strings.IndexByte(tok, '{'); i >= 0 {
		return impl.NameOk(tok[:i]) && tok[len(tok)-1] == '}' && slowLevels(tok[i+1:len(tok)-1], impl.MaxParams)
	}
	return impl.NameOk(tok)
}

// slowLevels tries every comma: one within round brackets has no level in front
// of it.
func slowLevels(list string, most int) bool {
	if most == 0 {
		return false
	}
	if _, code := impl.ParseLevel(list); code == 0 {
		return true
	}
	for i := range len(list) {
		if list[i] != ',' {
			continue
		}
		if _, code := impl.ParseLevel(list[:i]); code == 0 && slowLevels(list[i+1:], most-1) {
			return true
		}
	}
	return false
}

// slowRead gives the code and the offset of a text with few nodes.
func slowRead(text string) (int, int) {
	wanted, ok := []string{"term"}, true
	for _, place := range tokenForm.FindAllStringIndex(text, -1) {
		if wanted, ok = slowStep(wanted, text[place[0]:place[1]]); !ok {
			return impl.CodeText, place[0]
		}
	}
	if len(wanted) > 0 {
		return impl.CodeText, len(text)
	}
	return 0, 0
}

// short is a text that can be told in a message.
func short(text string) string {
	if len(text) <= 100 {
		return text
	}
	return text[:50] + " .. " + text[len(text)-50:]
}

func holdRead(t *testing.T, text string, want impl.Term) {
	t.Helper()
	got, code, at := impl.ParseTerm([]byte(text))
	if code != 0 || at != 0 || !equalTerms(got, want) || !impl.TermOk(got) {
		t.Errorf("%q: code %d at %d, or another term", short(text), code, at)
	}
}

func holdRefused(t *testing.T, text string, code, at int) {
	t.Helper()
	got, gotCode, gotAt := impl.ParseTerm([]byte(text))
	if gotCode != code || gotAt != at || len(got.Nodes) != 0 {
		t.Errorf("%q: code %d at %d with %d nodes, not code %d at %d", short(text), gotCode, gotAt, len(got.Nodes), code, at)
	}
}

func holdMistake(t *testing.T, text string, at int) {
	t.Helper()
	holdRefused(t, text, impl.CodeText, at)
}

// holdAsSlow is for texts whose numbers and levels are written in the one way
// that TermText has.
func holdAsSlow(t *testing.T, text string) {
	t.Helper()
	code, at := slowRead(text)
	if code != 0 {
		holdRefused(t, text, code, at)
		return
	}
	got, code, at := impl.ParseTerm([]byte(text))
	if code != 0 || at != 0 || !impl.TermOk(got) || written(got) != tidy(tokensOf(text)) {
		t.Errorf("%q: code %d at %d, or another term", short(text), code, at)
	}
}

func holdText(t *testing.T, x impl.Term, want string) {
	t.Helper()
	got, ok := impl.TermText(x)
	if !ok || string(got) != want {
		t.Errorf("%q and %v, not %q", short(string(got)), ok, short(want))
	}
}

func holdNoText(t *testing.T, what string, x impl.Term) {
	t.Helper()
	got, ok := impl.TermText(x)
	if ok || len(got) != 0 {
		t.Errorf("%s: %d bytes and %v", what, len(got), ok)
	}
}

// fullTerm has a text of so many bytes: an application to many constants, of
// which the last has a name that makes it fit.
func fullTerm(t *testing.T, bytes int) impl.Term {
	t.Helper()
	name := strings.Repeat("n", impl.MaxName)
	times := (bytes - 2*impl.MaxName) / (impl.MaxName + 3)
	rest := bytes - impl.MaxName - times*(impl.MaxName+3)
	nodes := copyTermNodes(spread(times, constant(name)), 0)
	for _, length := range []int{(rest - 6) / 2, rest - 6 - (rest-6)/2} {
		nodes = append(nodes, impl.Node{K: impl.TermConst, S: name[:length]})
		nodes = append(nodes, impl.Node{K: impl.TermApp, Kids: []int{len(nodes) - 2, len(nodes) - 1}})
	}
	x := impl.Term{Nodes: nodes}
	if !impl.TermOk(x) {
		t.Fatalf("a term of %d nodes with a text of %d bytes is not valid", len(nodes), bytes)
	}
	return x
}

// spreadText is what TermText should give for a term applied to itself so many
// times.
func spreadText(times int, text string) string {
	return strings.Repeat("[", times) + text + strings.Repeat(" "+text+"]", times)
}

func projsText(times int, text string) string {
	return strings.Repeat("[. P 0 ", times) + text + strings.Repeat("]", times)
}

// leavesForTexts are leaves of every kind, with what they have at their ends.
func leavesForTexts() []impl.Term {
	u := param("u")
	return []impl.Term{
		variable(0), variable(impl.MaxNodes), hole(0), hole(impl.MaxHole),
		prop(), universe(succ(u, 2)), universe(pair(impl.LevelImax, u, succ(zero(), 63-3))),
		constant("c"), constant("a.b'"), constant("max"), constant("c", zero()),
		constant("c", slices.Repeat([]impl.Level{pair(impl.LevelMax, u, param("v"))}, impl.MaxParams)...),
	}
}
