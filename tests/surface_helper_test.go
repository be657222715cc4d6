package tests

import (
	"bytes"
	"math/rand"
	"regexp"
	"slices"
	"strconv"
	"strings"
	"testing"

	"loop.example/g00005/impl"
)

// surf is a form with its kids at hand.
type surf struct {
	impl.Form
	kids []surf
}

func surfForm(form impl.Form, kids ...surf) surf {
	return surf{form, kids}
}

// surfKind is a form without any fields.
func surfKind(kind int, kids ...surf) surf {
	return surfForm(impl.Form{K: kind}, kids...)
}

// surfNamed is a form with an S.
func surfNamed(kind int, name string, kids ...surf) surf {
	return surfForm(impl.Form{K: kind, S: name}, kids...)
}

func surfName(s string) surf { return surfNamed(impl.FormName, s) }

func (x surf) write(forms []impl.Form) []impl.Form {
	form := x.Form
	form.Kids = nil
	for _, kid := range x.kids {
		forms = kid.write(forms)
		form.Kids = append(form.Kids, len(forms)-1)
	}
	return append(forms, form)
}

func (x surf) tree() impl.Tree {
	return impl.Tree{Forms: x.write(nil)}
}

func (x surf) count() int {
	count := 1
	for _, kid := range x.kids {
		count += kid.count()
	}
	return count
}

func (x surf) tall() int {
	tall := 0
	for _, kid := range x.kids {
		tall = max(tall, kid.tall()+1)
	}
	return tall
}

// surfOf is for trees whose forms are in order.
func surfOf(t impl.Tree) surf {
	var at func(place int) surf
	at = func(place int) surf {
		x := surf{Form: t.Forms[place]}
		for _, kid := range t.Forms[place].Kids {
			x.kids = append(x.kids, at(kid))
		}
		return x
	}
	return at(len(t.Forms) - 1)
}

var surfKinds = []string{"?", "name", "open", "sort", "app", "fun", "all", "let", "number", "proj", "of", "axiom", "def", "theorem", "script", "family", "ctor", "class", "instance", "quot", "eval", "check", "clauses", "clause", "pattern", "any", "intro", "exact", "apply", "rewrite", "induction", "cases", "assumption", "refl", "constructor", "have", "file"}

// spelt tells all of a form in the tests' own signs: its kind, `@` and its At,
// `:` and its S, `#` and its N, `!` and its M, its Names, its Levels, its kids.
func (x surf) spelt() string {
	text := surfKinds[x.K] + "@" + strconv.Itoa(x.At)
	if x.S != "" {
		text += ":" + x.S
	}
	if x.N != 0 {
		text += "#" + strconv.Itoa(x.N)
	}
	if x.M != 0 {
		text += "!" + strconv.Itoa(x.M)
	}
	if len(x.Names) > 0 {
		text += "<" + strings.Join(x.Names, " ") + ">"
	}
	var parts []string
	for _, l := range x.Levels {
		parts = append(parts, impl.LevelText(l))
	}
	if len(parts) > 0 {
		text += "{" + strings.Join(parts, " ") + "}"
	}
	parts = nil
	for _, kid := range x.kids {
		parts = append(parts, kid.spelt())
	}
	if len(parts) > 0 {
		text += "(" + strings.Join(parts, " ") + ")"
	}
	return text
}

func equalForms(a, b impl.Form) bool {
	return a.K == b.K && a.N == b.N && a.M == b.M && a.S == b.S && slices.Equal(a.Names, b.Names) &&
		slices.EqualFunc(a.Levels, b.Levels, sameNodes) && slices.Equal(a.Kids, b.Kids)
}

// equalTrees holds At too, unless it is told not to.
func equalTrees(a, b impl.Tree, withAt bool) bool {
	return slices.EqualFunc(a.Forms, b.Forms, func(x, y impl.Form) bool {
		return equalForms(x, y) && (!withAt || x.At == y.At)
	})
}

func copyTree(t impl.Tree) impl.Tree {
	var forms []impl.Form
	for _, f := range t.Forms {
		f.Names = slices.Clone(f.Names)
		f.Kids = slices.Clone(f.Kids)
		var levels []impl.Level
		for _, l := range f.Levels {
			levels = append(levels, copyLevel(l))
		}
		f.Levels = levels
		forms = append(forms, f)
	}
	return impl.Tree{Forms: forms}
}

func parseFile(text string) (impl.Tree, int, int) {
	return impl.ParseFile([]byte(text))
}

func parseForm(text string) (impl.Tree, int, int) {
	return impl.ParseForm([]byte(text))
}

type surfParse func(text string) (impl.Tree, int, int)

// holdTree has a text read as this tree, in the signs of spelt.
func holdTree(t *testing.T, parse surfParse, text string, want string) {
	t.Helper()
	tree, code, at := parse(text)
	if code != 0 || at != 0 || !impl.TreeOk(tree) {
		t.Errorf("%q: code %d at %d, valid %v", text, code, at, impl.TreeOk(tree))
		return
	}
	if got := surfOf(tree).spelt(); got != want {
		t.Errorf("%q is read as\n%s, not\n%s", text, got, want)
	}
}

func holdParseCode(t *testing.T, parse surfParse, text string, code, at int) {
	t.Helper()
	tree, gotCode, gotAt := parse(text)
	if gotCode != code || gotAt != at || len(tree.Forms) != 0 {
		t.Errorf("%.200q: code %d at %d with %d forms, not %d at %d", text, gotCode, gotAt, len(tree.Forms), code, at)
	}
}

// holdPrint has a tree printed as this text, and the text read as the same tree.
func holdPrint(t *testing.T, tree impl.Tree, want string) {
	t.Helper()
	text, ok := impl.Print(tree)
	if !ok || string(text) != want {
		t.Errorf("%v %q, not %q", ok, text, want)
		return
	}
	holdReadAgain(t, tree)
}

// holdReadAgain is promise 15 for one tree, which has a text.
func holdReadAgain(t *testing.T, tree impl.Tree) {
	t.Helper()
	text, ok := impl.Print(tree)
	parse := impl.ParseForm
	if tree.Forms[len(tree.Forms)-1].K == impl.FormFile {
		parse = impl.ParseFile
	}
	again, code, at := parse(text)
	if !ok || code != 0 || at != 0 || !impl.SameTree(tree, again) || !impl.SameTree(again, tree) || !equalTrees(tree, again, false) {
		t.Fatalf("%v %q is read with code %d at %d, as\n%v, not\n%v", ok, text, code, at, again, tree)
	}
	more, ok := impl.Print(again)
	if !ok || !bytes.Equal(text, more) {
		t.Fatalf("%v %q and then %q", ok, text, more)
	}
}

// The words of the document, and its signs, in its own order.
var (
	surfWords = strings.Fields("fun forall let Prop Type Sort axiom def theorem by family class instance quotient eval check _")
	surfSigns = strings.Fields(`( ) { } [ ] : := => -> <- , ; | @ = + * /\ \/ . .{`)
)

// tokenPieces are what a text can be cut into, the longest at each place.
var tokenPieces = func() *regexp.Regexp {
	pieces := []string{`--[^\n]*`, `[\t\n\r ]`, `[A-Za-z_][A-Za-z0-9_']*(\.[A-Za-z_][A-Za-z0-9_']*)*`, `[0-9][A-Za-z0-9_']*`}
	for _, sign := range surfSigns {
		pieces = append(pieces, regexp.QuoteMeta(sign))
	}
	re := regexp.MustCompile(`^(` + strings.Join(pieces, "|") + `)`)
	re.Longest()
	return re
}()

var tokenDigits = regexp.MustCompile(`^[0-9]{1,3}$`)

// slowTokens cuts a text by tokenPieces.
func slowTokens(text string) ([]impl.Token, int, int) {
	if len(text) > impl.MaxSource {
		return nil, impl.CodeSize, 0
	}
	var tokens []impl.Token
	for at := 0; at < len(text); {
		piece := tokenPieces.FindString(text[at:])
		tok := impl.Token{S: piece, At: at}
		switch {
		case piece == "", len(piece) > impl.MaxName && isNamePiece(piece), isDigitPiece(piece) && !tokenDigits.MatchString(piece):
			return nil, impl.CodeText, at
		case strings.HasPrefix(piece, "--"), strings.ContainsAny(piece, "\t\n\r "):
			at += len(piece)
			continue
		case isDigitPiece(piece):
			tok.K, tok.S = impl.TokNumber, ""
			tok.N, _ = strconv.Atoi(piece)
		case slices.Contains(surfWords, piece):
			tok.K = impl.TokWord
		case isNamePiece(piece):
			tok.K = impl.TokName
		default:
			tok.K = impl.TokSign
		}
		tokens = append(tokens, tok)
		at += len(piece)
	}
	return tokens, 0, 0
}

func isNamePiece(piece string) bool {
	c := piece[0]
	return c >= 'a' && c <= 'z' || c >= 'A' && c <= 'Z' || c == '_'
}

func isDigitPiece(piece string) bool {
	return piece[0] >= '0' && piece[0] <= '9'
}

// holdTokens holds Tokens against slowTokens.
func holdTokens(t *testing.T, text string) {
	t.Helper()
	got, code, at := impl.Tokens([]byte(text))
	want, wantCode, wantAt := slowTokens(text)
	if code != wantCode || at != wantAt || !slices.Equal(got, want) {
		t.Fatalf("%.200q: code %d at %d %v, not %d at %d %v", text, code, at, got, wantCode, wantAt, want)
	}
}

// tokenTexts are the tokens of a text as they are written there.
func tokenTexts(text string) []string {
	tokens, _, _ := slowTokens(text)
	var texts []string
	for _, tok := range tokens {
		texts = append(texts, tokenPieces.FindString(text[tok.At:]))
	}
	return texts
}

// layOut writes tokens behind each other, with blanks and notes between them, and
// without where they stay apart by themselves; it gives the offset of each, and
// that of the end.
func layOut(r *rand.Rand, tokens []string) (string, []int) {
	fillings := []string{" ", "  ", "\n", "\t", "\r\n", " -- note\n", "--\n", " --fun ) ?\n ", "", "", "", "", ""}
	text := ""
	tail, inTail := 0, []string{}
	var places []int
	put := func(filling string) {
		if filling != "" {
			text += filling
			tail, inTail = len(text), nil
		}
	}
	put(fillings[r.Intn(len(fillings))])
	for _, tok := range tokens {
		if !slices.Equal(tokenTexts(text[tail:]+tok), append(slices.Clone(inTail), tok)) {
			put(" ")
		}
		places = append(places, len(text))
		text += tok
		inTail = append(inTail, tok)
		put(fillings[r.Intn(len(fillings))])
	}
	return text, append(places, len(text))
}
