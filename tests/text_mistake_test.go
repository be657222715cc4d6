package tests

import (
	"math/rand"
	"slices"
	"strings"
	"testing"

	"loop.example/g00005/impl"
)

// bracketForm is a node in brackets: for each part what is wanted there, and a
// token that can stand there.
type bracketForm struct {
	wanted []string
	parts  []string
}

func bracketForms() []bracketForm {
	return []bracketForm{
		{[]string{"first", "term"}, []string{"#0", "c"}},
		{[]string{"first", "short", "mode", "term", "term"}, []string{"^", "x", "1", "#0", "c"}},
		{[]string{"first", "short", "mode", "term", "term"}, []string{"!", "x", "02", "*u", "?3"}},
		{[]string{"first", "short", "term", "term", "term"}, []string{"=", "x", "f{u}", "c", "#1"}},
		{[]string{"first", "name", "number", "term"}, []string{".", "a.b", "20000", "c"}},
	}
}

// wrongTokens can't stand where this is wanted.
func wrongTokens(wanted string) []string {
	never := []string{"]", "#", "*", "?", "^x", "=.", "-1", "x.", ".x", "f{}", "f{u", "u}", "#20001", "?1000001", "*64", "+", "(", ",", "\x00", "\xff", "\t"}
	switch wanted {
	case "first":
		return append(never, "0", "1")
	case "term":
		return append(never, "0", "1", "^", "!", "=", ".")
	case "short":
		return append(never, "0", "1", "^", "!", "=", ".", "[", "#0", "*u", "?0", "f{u}", "a.b")
	case "name":
		return append(never, "0", "1", "^", "!", "=", ".", "[", "#0", "*u", "?0", "f{u}")
	case "mode":
		return append(never, "3", "10", "00000000", "^", "!", "=", ".", "[", "#0", "*u", "?0", "f{u}", "c")
	}
	return append(never, "20001", "9999999", "00000000", "^", "!", "=", ".", "[", "#0", "*u", "?0", "f{u}", "c")
}

// The places of a node within others: what stands in front of it and behind.
var around = []struct{ front, behind string }{
	{"", ""}, {" \n", " "}, {"[", " #0]"}, {"[c ", "]"}, {"[^ x 0 ", " #0]"}, {"[^ x 0 c", "]"}, {"[! x 0 ", " #0]"}, {"[! x 0 c ", "]"},
	{"[= x ", " #0 #0]"}, {"[= x #0", "#0]"}, {"[= x #0 #0 ", "]"}, {"[. P 0 ", "]"}, {"[[^ x 2 [c[. a.b 7", "]] c] c]"},
}

func TestParseTermWrongTokenAtEachPlace(t *testing.T) {
	for _, a := range around {
		for _, form := range bracketForms() {
			for i := range form.parts {
				front := a.front + "[" + strings.Join(form.parts[:i], " ")
				if i > 0 {
					front += " "
				}
				for _, wrong := range wrongTokens(form.wanted[i]) {
					for _, behind := range []string{"", " ", " " + strings.Join(form.parts[i+1:], " ") + "]" + a.behind, " ] ( # \x00"} {
						holdMistake(t, front+wrong+behind, len(front))
					}
				}
			}
		}
	}
}

func TestParseTermTooFewAndTooMany(t *testing.T) {
	for _, a := range around {
		for _, form := range bracketForms() {
			for count := range form.parts {
				front := a.front + "[" + strings.Join(form.parts[:count], " ")
				for _, blanks := range []string{"", " ", "\n\n "} {
					holdMistake(t, front+blanks+"]"+a.behind, len(front+blanks))
				}
			}
			front := a.front + "[" + strings.Join(form.parts, " ")
			for _, more := range append(wrongTokens("first")[1:], "[", "#0", "c", "*u", "?0", "f{u}", "^", "x", "1", "[#0 #0]") {
				holdMistake(t, front+" "+more+"]"+a.behind, len(front)+1)
				holdMistake(t, front+"\n  "+more, len(front)+3)
			}
		}
	}
}

// A text that ends too early is told at its end, with its blanks.
func TestParseTermEndsTooEarly(t *testing.T) {
	for _, blanks := range []string{"", " ", "\n", "   ", "\n \n", strings.Repeat(" ", 1000)} {
		holdMistake(t, blanks, len(blanks))
		for _, a := range around {
			for _, form := range bracketForms() {
				for count := range len(form.parts) + 1 {
					text := a.front + "[" + strings.Join(form.parts[:count], " ") + blanks
					holdMistake(t, text, len(text))
				}
				if a.front != "" && a.front != " \n" {
					text := a.front + "[" + strings.Join(form.parts, " ") + "]" + blanks
					holdMistake(t, text, len(text))
				}
			}
		}
	}
	holdMistake(t, strings.Repeat(" ", impl.MaxText), impl.MaxText)
	for _, piece := range []string{"[", "[ ", "[[. P 0 ", "[^ x 0 ", "[= x #0\n#0 "} {
		text := strings.Repeat(piece, impl.MaxText/len(piece))
		holdMistake(t, text, len(text))
	}
	for _, text := range []string{"", "\n"} {
		x, code, at := impl.ParseTerm([]byte(text))
		if code != impl.CodeText || at != len(text) || len(x.Nodes) != 0 {
			t.Errorf("%q: code %d at %d", text, code, at)
		}
	}
	if _, code, at := impl.ParseTerm(nil); code != impl.CodeText || at != 0 {
		t.Errorf("nil: code %d at %d", code, at)
	}
}

func TestParseTermBehindTheTerm(t *testing.T) {
	for _, text := range []string{"#0", "*u", "c", "f{u}", "?1", "[#0 c]", "[^ x 0 #0 c]", "[! x 0 #0 c]", "[= x #0 c c]", "[. P 0 #0]"} {
		for _, more := range []string{"[", "]", "#0", "c", "*u", "f{u}", "?1", "^", "!", "=", ".", "0", "+", "\x00", "\xff", "[#0 #0]", "] ]", "#", "x."} {
			for _, blanks := range []string{" ", "\n", "  \n "} {
				holdMistake(t, text+blanks+more, len(text+blanks))
				holdMistake(t, text+blanks+more+blanks, len(text+blanks))
				holdMistake(t, blanks+text+blanks+more+" [ ] (", len(blanks+text+blanks))
			}
			if strings.ContainsAny(more[:1], "[]") || text[0] == '[' {
				holdMistake(t, text+more, len(text))
			}
		}
	}
}

// Of several mistakes the first one is told.
func TestParseTermFirstMistake(t *testing.T) {
	for _, c := range []struct {
		text string
		at   int
	}{
		{"] ]", 0}, {"# #", 0}, {"[# #", 1}, {"[#0 # ]]", 4}, {"[^ 1 7 # ]", 3}, {"[^ x 7 # ]", 5}, {"[^ x 1 # ]", 7}, {"[^ x 1 #0]]", 9}, {"[#0 #1] ] #", 8},
		{"[. a 1 ] ]", 7}, {"[. . . .]", 3}, {"[= = = = =]", 3}, {"[[]", 2}, {"[[^", 3}, {"[[[ ]]]", 4}, {"[]", 1}, {"[ ]", 2}, {"[", 1}, {"^", 0}, {"^ x 0 #0 #0", 0}, {"[#0 ^ x 0 #0 #0]", 4}, {"[#0 [^] x 0 #0 #0]", 6},
	} {
		holdMistake(t, c.text, c.at)
		code, at := slowRead(c.text)
		if code != impl.CodeText || at != c.at {
			t.Errorf("the tests find %q at %d", c.text, at)
		}
	}
}

// walkTokens lays every token behind each row of tokens that can go on.
func walkTokens(t *testing.T, words, front, wanted []string, left int) {
	text := strings.Join(front, " ")
	if len(wanted) > 0 {
		holdMistake(t, text, len(text))
	} else {
		holdAsSlow(t, text)
	}
	if left == 0 || t.Failed() {
		return
	}
	if len(front) > 0 {
		text += " "
	}
	for _, word := range words {
		next, ok := slowStep(slices.Clone(wanted), word)
		if !ok {
			holdMistake(t, text+word, len(text))
			holdMistake(t, text+word+" ] [ x", len(text))
			continue
		}
		walkTokens(t, words, append(slices.Clone(front), word), next, left-1)
	}
}

func TestParseTermEveryRowOfTokens(t *testing.T) {
	walkTokens(t, tokensOf("[ ] ^ ! = . x a.b 1 3 #0 *u f{u,0} ?2 + # ^x"), nil, []string{"term"}, 5)
	walkTokens(t, tokensOf("[ ] ^ = . x 1"), nil, []string{"term"}, 11)
}

func TestParseTermChangedTexts(t *testing.T) {
	t.Parallel()
	r := rand.New(rand.NewSource(54))
	words := tokensOf("[ ] ^ ! = . x a.b 0 1 2 3 #0 *0 f{u} f{} ?1 + # * ?")
	for range 60000 {
		tokens := tokensOf(written(randomTerm(r, 1+r.Intn(8), 0)))
		at := r.Intn(len(tokens))
		switch r.Intn(4) {
		case 0:
			tokens[at] = words[r.Intn(len(words))]
		case 1:
			tokens = slices.Delete(tokens, at, at+1)
		case 2:
			tokens = slices.Insert(tokens, at, words[r.Intn(len(words))])
		case 3:
			tokens = tokens[:at]
		}
		holdAsSlow(t, withBlanks(r, tokens))
	}
}

func TestParseTermStrangeBytes(t *testing.T) {
	texts := []string{"#12", "?3", "*max(u,1)", "a.b", "f{u,max(u,0)}", "[#0 c]", " [^ x 1 #0 *u]\n", "[! x 0 f{u,v} ?1]", "[= x #0 #1 c.d]", "[. a.b 12 [c #0]]"}
	for _, text := range texts {
		for at := range len(text) + 1 {
			for _, strange := range []byte{0, 9, 13, 127, 128, 255} {
				changed := text[:at] + string([]byte{strange}) + text[at:]
				// The token with the strange byte is the first that is wrong.
				for _, place := range tokenForm.FindAllStringIndex(changed, -1) {
					if place[0] <= at && at < place[1] {
						holdMistake(t, changed, place[0])
					}
				}
				if at < len(text) {
					instead := text[:at] + string([]byte{strange}) + text[at+1:]
					holdAsSlow(t, instead)
				}
			}
		}
	}
	for c := range 256 {
		b := string([]byte{byte(c)})
		for _, text := range []string{b, "c" + b, b + "c", "[" + b, "#" + b, "?" + b, "*" + b, "[c" + b + "c]", "[c " + b + "]", "[c c" + b + "]", "[c c]" + b, "[" + b + " x 0 c c]", "[^ " + b + " 0 c c]", "[^ x" + b + " 0 c c]", "[^ x " + b + " c c]", "f{" + b + "}", "f{u" + b + "v}", "f" + b + "u}", "f{u" + b} {
			holdAsSlow(t, text)
		}
	}
}

func TestParseTermOfAnyBytes(t *testing.T) {
	t.Parallel()
	r := rand.New(rand.NewSource(55))
	signs := []byte("[[[]]]   \n#*?^!=.{},()+'_xuamf0129\x00\t\xff")
	for range 150000 {
		text := make([]byte, r.Intn(14))
		for i := range text {
			text[i] = signs[r.Intn(len(signs))]
			if r.Intn(20) == 0 {
				text[i] = byte(r.Intn(256))
			}
		}
		x, code, at := impl.ParseTerm(text)
		wantCode, wantAt := slowRead(string(text))
		if code != wantCode || at != wantAt || impl.TermOk(x) != (code == 0) {
			t.Fatalf("%q: code %d at %d, not %d at %d", text, code, at, wantCode, wantAt)
		}
	}
}

func TestParseTermLongTexts(t *testing.T) {
	for _, text := range []string{"#0", "[. P 0 #0]", "c{u}"} {
		x, _, _ := impl.ParseTerm([]byte(text))
		full := text + strings.Repeat(" ", impl.MaxText-len(text))
		holdRead(t, full, x)
		holdRefused(t, full+" ", impl.CodeSize, 0)
		full = strings.Repeat("\n", impl.MaxText-len(text)) + text
		holdRead(t, full, x)
		holdRefused(t, " "+full, impl.CodeSize, 0)
	}
	for _, piece := range []string{"]", "[", " ", "x", "#0 ", "\x00", "0", "f{u}", "(", ",", "*", "."} {
		text := strings.Repeat(piece, impl.MaxText/len(piece)+1)
		holdRefused(t, text[:impl.MaxText+1], impl.CodeSize, 0)
		holdMistake(t, text[:impl.MaxText], longMistake(text[:impl.MaxText]))
		holdRefused(t, strings.Repeat(text, 3), impl.CodeSize, 0)
	}
	full := string(textOf(t, fullTerm(t, impl.MaxText-2)))
	holdMistake(t, full+" ]", impl.MaxText-1)
	holdMistake(t, full+" x", impl.MaxText-1)
	holdMistake(t, full[1:], strings.LastIndex(full, " "))
	holdMistake(t, "["+full, impl.MaxText-1)
}

// longMistake is where a text of one piece again and again has its mistake.
func longMistake(text string) int {
	switch text[0] {
	case '[', ' ':
		return len(text)
	case '#':
		return len("#0 ")
	}
	return 0
}

func textOf(t *testing.T, x impl.Term) []byte {
	t.Helper()
	text, ok := impl.TermText(x)
	if !ok {
		t.Fatalf("a term of %d nodes has no text", len(x.Nodes))
	}
	return text
}

func TestParseTermNodes(t *testing.T) {
	t.Parallel()
	most := impl.MaxNodes
	holdRead(t, projsText(most-1, "?1"), projs(most-1, hole(1)))
	holdRead(t, projsText(1, spreadText(most/2-1, "c")), projs(1, spread(most/2-1, constant("c"))))
	holdRead(t, "[= x c c "+projsText(most-4, "c")+"]", let("x", constant("c"), constant("c"), projs(most-4, constant("c"))))
	for _, great := range []string{projsText(most, "?1"), spreadText(most/2, "c"), projsText(1, spreadText(most/2, "c")), projsText(2, spreadText(most/2-1, "c")), projsText(2*most, "c"), spreadText(4*most, "c"), "[= x c c " + projsText(most-3, "c") + "]", "[" + projsText(most/2, "c") + projsText(most/2, "c") + "]"} {
		holdRefused(t, great, impl.CodeSize, 0)
		holdRefused(t, " "+great+"\n", impl.CodeSize, 0)
		// A mistake comes ahead of the nodes, wherever it is.
		holdMistake(t, great+"]", len(great))
		holdMistake(t, great+" c", len(great)+1)
		holdMistake(t, great+"\n\x00", len(great)+1)
		holdMistake(t, great[:len(great)-1], len(great)-1)
		holdMistake(t, great[:len(great)-1]+" ", len(great))
		holdMistake(t, great[:len(great)-1]+"#", strings.LastIndexAny(great[:len(great)-1], " []")+1)
		holdMistake(t, "["+great, len(great)+1)
	}
}
