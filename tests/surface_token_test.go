package tests

import (
	"math/rand"
	"slices"
	"strings"
	"testing"

	"loop.example/g00005/impl"
)

func name(s string, at int) impl.Token { return impl.Token{K: impl.TokName, S: s, At: at} }

func number(n, at int) impl.Token { return impl.Token{K: impl.TokNumber, N: n, At: at} }

func sign(s string, at int) impl.Token { return impl.Token{K: impl.TokSign, S: s, At: at} }

func word(s string, at int) impl.Token { return impl.Token{K: impl.TokWord, S: s, At: at} }

func TestTokensByHand(t *testing.T) {
	for _, c := range []struct {
		text string
		want []impl.Token
	}{
		{"", nil},
		{" \t\r\n", nil},
		{"x", []impl.Token{name("x", 0)}},
		{" x\n", []impl.Token{name("x", 1)}},
		{"x y", []impl.Token{name("x", 0), name("y", 2)}},
		{"a.b", []impl.Token{name("a.b", 0)}},
		{"a.b.c'", []impl.Token{name("a.b.c'", 0)}},
		{"a._", []impl.Token{name("a._", 0)}},
		{"_.a", []impl.Token{name("_.a", 0)}},
		{"_", []impl.Token{word("_", 0)}},
		{"__", []impl.Token{name("__", 0)}},
		{"_1", []impl.Token{name("_1", 0)}},
		{"a.1", []impl.Token{name("a", 0), sign(".", 1), number(1, 2)}},
		{"a.b.1", []impl.Token{name("a.b", 0), sign(".", 3), number(1, 4)}},
		{"a.", []impl.Token{name("a", 0), sign(".", 1)}},
		{"a.b.", []impl.Token{name("a.b", 0), sign(".", 3)}},
		{"a. b", []impl.Token{name("a", 0), sign(".", 1), name("b", 3)}},
		{"a .b", []impl.Token{name("a", 0), sign(".", 2), name("b", 3)}},
		{"a--\n.b", []impl.Token{name("a", 0), sign(".", 4), name("b", 5)}},
		{"1.b", []impl.Token{number(1, 0), sign(".", 1), name("b", 2)}},
		{"a.1.b", []impl.Token{name("a", 0), sign(".", 1), number(1, 2), sign(".", 3), name("b", 4)}},
		{").b", []impl.Token{sign(")", 0), sign(".", 1), name("b", 2)}},
		{"a..b", []impl.Token{name("a", 0), sign(".", 1), sign(".", 2), name("b", 3)}},
		{"a.{u}", []impl.Token{name("a", 0), sign(".{", 1), name("u", 3), sign("}", 4)}},
		{"a. {", []impl.Token{name("a", 0), sign(".", 1), sign("{", 3)}},
		{"a..{", []impl.Token{name("a", 0), sign(".", 1), sign(".{", 2)}},
		{"fun", []impl.Token{word("fun", 0)}},
		{"fun.x", []impl.Token{name("fun.x", 0)}},
		{"x.fun", []impl.Token{name("x.fun", 0)}},
		{"fun.1", []impl.Token{word("fun", 0), sign(".", 3), number(1, 4)}},
		{"fun'", []impl.Token{name("fun'", 0)}},
		{"Fun prop funn", []impl.Token{name("Fun", 0), name("prop", 4), name("funn", 9)}},
		{"intro", []impl.Token{name("intro", 0)}},
		{":=::=", []impl.Token{sign(":=", 0), sign(":", 2), sign(":=", 3)}},
		{"->=>", []impl.Token{sign("->", 0), sign("=>", 2)}},
		{"==>", []impl.Token{sign("=", 0), sign("=>", 1)}},
		{":==>", []impl.Token{sign(":=", 0), sign("=>", 2)}},
		{"<-->", []impl.Token{sign("<-", 0), sign("->", 2)}},
		{"<---x\n<-", []impl.Token{sign("<-", 0), sign("<-", 6)}},
		{"a->b", []impl.Token{name("a", 0), sign("->", 1), name("b", 3)}},
		{"a-->b\nc", []impl.Token{name("a", 0), name("c", 6)}},
		{"a--", []impl.Token{name("a", 0)}},
		{"--a", nil},
		{"---\nb", []impl.Token{name("b", 4)}},
		{"--\r--\nb", []impl.Token{name("b", 6)}},
		{"-- \x00\xff ? 1000 é\nb", []impl.Token{name("b", 16)}},
		{`/\\/`, []impl.Token{sign(`/\`, 0), sign(`\/`, 2)}},
		{`\//\`, []impl.Token{sign(`\/`, 0), sign(`/\`, 2)}},
		{"1", []impl.Token{number(1, 0)}},
		{"0 00 000 012 999", []impl.Token{number(0, 0), number(0, 2), number(0, 5), number(12, 9), number(999, 13)}},
		{"1+1", []impl.Token{number(1, 0), sign("+", 1), number(1, 2)}},
		{"1.2", []impl.Token{number(1, 0), sign(".", 1), number(2, 2)}},
		{"(){}[]:,;|@=+*", []impl.Token{sign("(", 0), sign(")", 1), sign("{", 2), sign("}", 3), sign("[", 4), sign("]", 5), sign(":", 6), sign(",", 7), sign(";", 8), sign("|", 9), sign("@", 10), sign("=", 11), sign("+", 12), sign("*", 13)}},
	} {
		tokens, code, at := impl.Tokens([]byte(c.text))
		if code != 0 || at != 0 || !slices.Equal(tokens, c.want) {
			t.Errorf("%q: code %d at %d, %v, not %v", c.text, code, at, tokens, c.want)
		}
	}
}

func TestTokensMistakes(t *testing.T) {
	for _, c := range []struct {
		text string
		at   int
	}{
		{"?", 0}, {" ?", 1}, {"x?", 1}, {"x ?", 2}, {"-", 0}, {"a-b", 1}, {"a - -b", 2}, {"<", 0}, {"<->", 2}, {"< -", 0}, {"/", 0}, {`\`, 0}, {`/ \`, 0}, {">", 0}, {"=>>", 2}, {"->>", 2}, {":>", 1}, {"'", 0}, {"'a", 0}, {"a.'", 2}, {"a.'b", 2}, {"!", 0}, {"#", 0}, {"\x00", 0}, {"\xff", 0}, {"\v", 0}, {"\f", 0}, {"é", 0}, {"aé", 1}, {"\x80", 0}, {"a\u00a0b", 1},
		{"1000", 0}, {"0000", 0}, {"x 1000", 2}, {"1a", 0}, {"1_", 0}, {"1'", 0}, {"12fun", 0}, {"123a", 0}, {"1234a", 0}, {"a.1b", 2}, {"a.1000", 2}, {"1 2 3a", 4}, {"1000 ?", 0}, {"? 1000", 0}, {"--\n?", 3}, {"-- ?\n ?", 6}, {"a -", 2},
	} {
		tokens, code, at := impl.Tokens([]byte(c.text))
		if code != impl.CodeText || at != c.at || len(tokens) != 0 {
			t.Errorf("%q: code %d at %d, %v", c.text, code, at, tokens)
		}
	}
}

func TestTokensEachSignAndWord(t *testing.T) {
	for _, s := range surfSigns {
		tokens, code, _ := impl.Tokens([]byte(s))
		if code != 0 || !slices.Equal(tokens, []impl.Token{sign(s, 0)}) {
			t.Errorf("%q: code %d, %v", s, code, tokens)
		}
	}
	for _, w := range surfWords {
		for _, c := range []struct {
			text string
			want impl.Token
		}{{w, word(w, 0)}, {w + "x", name(w+"x", 0)}, {w + "'", name(w+"'", 0)}, {w + "1", name(w+"1", 0)}, {w + "_", name(w+"_", 0)}, {"x" + w, name("x"+w, 0)}, {w + ".x", name(w+".x", 0)}, {"x." + w, name("x."+w, 0)}, {w + "." + w, name(w+"."+w, 0)}} {
			tokens, code, _ := impl.Tokens([]byte(c.text))
			if code != 0 || !slices.Equal(tokens, []impl.Token{c.want}) {
				t.Errorf("%q: code %d, %v", c.text, code, tokens)
			}
		}
	}
	for _, s := range []string{"intro", "exact", "apply", "rewrite", "induction", "cases", "assumption", "refl", "constructor", "have", "max", "imax", "Nat.zero", "prop", "type", "PROP", "Forall", "end", "with", "match", "structure"} {
		tokens, code, _ := impl.Tokens([]byte(s))
		if code != 0 || !slices.Equal(tokens, []impl.Token{name(s, 0)}) {
			t.Errorf("%q: code %d, %v", s, code, tokens)
		}
	}
}

// All texts of few pieces that may run into each other.
func TestTokensEveryRowOfPieces(t *testing.T) {
	pieces := append([]string{"a", "_", "b'", "1", "99", ".", "-", "<", ">", "/", `\`, " ", "\n", "?", "fun"}, surfSigns...)
	for _, a := range pieces {
		for _, b := range pieces {
			for _, c := range pieces {
				holdTokens(t, a+b+c)
			}
		}
	}
	small := []string{"a", "1", ".", "{", "-", "<", ">", "=", ":", "\n"}
	var walk func(text string, left int)
	walk = func(text string, left int) {
		holdTokens(t, text)
		for _, piece := range small {
			if left > 0 {
				walk(text+piece, left-1)
			}
		}
	}
	walk("", 5)
}

func TestTokensEveryByte(t *testing.T) {
	for c := range 256 {
		b := string([]byte{byte(c)})
		for _, text := range []string{b, "a" + b, b + "a", "a" + b + "a", "1" + b, b + "1", "a." + b, "-" + b, b + "-", "--" + b + "x", "-- " + b + "\nx", ":" + b, "a " + b + " a", b + b, "." + b, "=" + b, "/" + b, `\` + b} {
			holdTokens(t, text)
		}
	}
}

func TestTokensOfAnyBytes(t *testing.T) {
	t.Parallel()
	r := rand.New(rand.NewSource(140))
	bytes := []byte("aaab_'.....1190  \n\t\r(){}[]:=>-<,;|@+*/\\?\x00\xff")
	for range 100000 {
		text := make([]byte, r.Intn(20))
		for i := range text {
			text[i] = bytes[r.Intn(len(bytes))]
			if r.Intn(30) == 0 {
				text[i] = byte(r.Intn(256))
			}
		}
		holdTokens(t, string(text))
	}
}

func TestTokensLongNames(t *testing.T) {
	long := strings.Repeat("a", impl.MaxName)
	dotted := strings.Repeat("a.", impl.MaxName/2-1) + "bc"
	for _, ok := range []string{long, "_" + long[1:], long[:39] + "'", long[:19] + "." + long[:20], dotted} {
		if len(ok) != impl.MaxName {
			t.Fatalf("%q has %d bytes", ok, len(ok))
		}
		for _, around := range []struct{ front, behind string }{{"", ""}, {"x ", " y"}, {"(", ")"}, {"", "."}, {"", ".1"}, {"", ".{"}} {
			text := around.front + ok + around.behind
			tokens, code, _ := impl.Tokens([]byte(text))
			if code != 0 || !slices.Contains(tokens, name(ok, len(around.front))) {
				t.Errorf("%q: code %d, %v", text, code, tokens)
			}
			for _, more := range []string{"a", "_", "'", "1", ".a", "._", ".fun"} {
				text := around.front + ok + more + around.behind
				tokens, code, at := impl.Tokens([]byte(text))
				if code != impl.CodeText || at != len(around.front) || len(tokens) != 0 {
					t.Errorf("%q: code %d at %d, %v", text, code, at, tokens)
				}
			}
		}
	}
	for _, text := range []string{strings.Repeat("a", impl.MaxSource), strings.Repeat("a.", impl.MaxSource/2-1) + "aa", strings.Repeat("1", impl.MaxSource), strings.Repeat("1", 100) + "a"} {
		if _, code, at := impl.Tokens([]byte(text)); code != impl.CodeText || at != 0 {
			t.Errorf("%.20q: code %d at %d", text, code, at)
		}
	}
}

func TestTokensLongTexts(t *testing.T) {
	for _, piece := range []string{" ", "x ", "(", "1 ", "\n", "--", "-- x\n", ":=", ".", "?", "fun ", "a.b "} {
		full := strings.Repeat(piece, impl.MaxSource/len(piece)+1)[:impl.MaxSource]
		holdTokens(t, full)
		for _, great := range []string{full + " ", full + full, full + "?", "?" + full} {
			tokens, code, at := impl.Tokens([]byte(great))
			if code != impl.CodeSize || at != 0 || len(tokens) != 0 {
				t.Errorf("%.20q: code %d at %d, %d tokens", great, code, at, len(tokens))
			}
		}
	}
	tokens, code, at := impl.Tokens([]byte(strings.Repeat("(", impl.MaxSource)))
	if code != 0 || at != 0 || len(tokens) != impl.MaxSource || tokens[impl.MaxSource-1] != sign("(", impl.MaxSource-1) {
		t.Errorf("code %d at %d, %d tokens", code, at, len(tokens))
	}
	// The code of a mistake at the last byte.
	last := strings.Repeat("x ", impl.MaxSource/2-1) + " ?"
	if _, code, at := impl.Tokens([]byte(last)); code != impl.CodeText || at != impl.MaxSource-1 {
		t.Errorf("code %d at %d", code, at)
	}
	if tokens, code, at := impl.Tokens(nil); code != 0 || at != 0 || len(tokens) != 0 {
		t.Errorf("nil: code %d at %d, %v", code, at, tokens)
	}
}
