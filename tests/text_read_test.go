package tests

import (
	"fmt"
	"math/rand"
	"slices"
	"strings"
	"testing"

	"loop.example/g00005/impl"
)

// withBlanks lays other blanks between tokens, none where none is needed.
func withBlanks(r *rand.Rand, tokens []string) string {
	var text strings.Builder
	lay := func(least int) {
		for range least + r.Intn(3)*r.Intn(3) {
			text.WriteByte(" \n"[r.Intn(2)])
		}
	}
	last := "["
	for _, tok := range tokens {
		least := 0
		if !strings.Contains("[]", tok) && !strings.Contains("[]", last) {
			least = 1
		}
		lay(least)
		text.WriteString(tok)
		last = tok
	}
	lay(0)
	return text.String()
}

func TestParseTermBlanks(t *testing.T) {
	lamText, lamTerm := "[^ x 1 *u [#0 f{u}]]", lam("x", 1, universe(param("u")), app(variable(0), constant("f", param("u"))))
	for _, text := range []string{
		lamText, " " + lamText, "\n" + lamText, lamText + " ", lamText + "\n", "  \n \n" + lamText + "\n\n  ",
		"[^ x 1 *u[#0 f{u}]]", "[ ^ x 1 *u [ #0 f{u} ] ]", "[\n^\nx\n1\n*u\n[\n#0\nf{u}\n]\n]", "[^  x \n 1   *u [#0\n\nf{u}  ] ]",
	} {
		holdRead(t, text, lamTerm)
	}
	holdRead(t, "[#0[#1 #2]]", app(variable(0), app(variable(1), variable(2))))
	holdRead(t, "[[#0 #1]#2]", app(variable(0), variable(1), variable(2)))
	holdRead(t, "[[#0 #1][#2 #3]]", app(app(variable(0), variable(1)), app(variable(2), variable(3))))
	holdRead(t, "[= x[#0 #1][#2 #3][. P 0[#4 #5]]]", let("x", app(variable(0), variable(1)), app(variable(2), variable(3)), proj("P", 0, app(variable(4), variable(5)))))
	r := rand.New(rand.NewSource(52))
	for range 4000 {
		x := randomTerm(r, 1+r.Intn(20), 0)
		text := withBlanks(r, tokensOf(written(x)))
		holdRead(t, text, x)
		back, _, _ := impl.ParseTerm([]byte(text))
		holdText(t, back, written(x))
	}
}

// Blanks are no more than these two bytes, and a token is none without one.
func TestParseTermBlanksAreNeeded(t *testing.T) {
	for _, c := range []struct {
		text string
		at   int
	}{
		{"[#0#1]", 1}, {"[#0*0]", 1}, {"[a?0]", 1}, {"[a#0]", 1}, {"[^x 0 #0 #0]", 1}, {"[^ x0 #0 #0]", 6}, {"[.P 0 #0]", 1}, {"[=x #0 #0 #0]", 1}, {"[!x 0 #0 #0]", 1},
		{"# 0", 0}, {"? 0", 0}, {"* 0", 0}, {"f {u}", 2}, {"f{ u}", 0}, {"f{u, v}", 0}, {"f{u }", 0}, {"*max(u, v)", 0}, {"*u +1", 3}, {"a . b", 2}, {"[a .b]", 3},
		{"[#0\t#1]", 1}, {"[#0\r\n#1]", 1}, {"\t#0", 0}, {"#0\t", 0}, {"#0\r\n", 0}, {"#0 \t", 3}, {"[#0\v#1]", 1}, {"[#0\u00a0#1]", 1},
	} {
		holdMistake(t, c.text, c.at)
	}
	// Two tokens of names are one without a blank.
	holdRead(t, "[ab c]", app(constant("ab"), constant("c")))
	holdMistake(t, "[abc]", 4)
}

func TestParseTermNumbers(t *testing.T) {
	for _, c := range []struct {
		form string
		make func(n int) impl.Term
		most int
	}{
		{"#%s", variable, impl.MaxNodes},
		{"?%s", hole, impl.MaxHole},
		{"[. P %s #0]", func(n int) impl.Term { return proj("P", n, variable(0)) }, impl.MaxNodes},
		{"[^ x %s #0 #0]", func(n int) impl.Term { return lam("x", n, variable(0), variable(0)) }, 2},
		{"[! x %s #0 #0]", func(n int) impl.Term { return pi("x", n, variable(0), variable(0)) }, 2},
	} {
		at := strings.Index(c.form, "%")
		if at == 1 {
			at = 0
		}
		for _, n := range []int{0, 1, 2, 3, 9, 10, 12, 255, 256, 1000, impl.MaxNodes - 1, impl.MaxNodes, impl.MaxNodes + 1, 99999, 100000, 999999, impl.MaxHole, impl.MaxHole + 1, 9999999} {
			for zeros := range 9 {
				digits := fmt.Sprintf("%0*d", zeros, n)
				text := fmt.Sprintf(c.form, digits)
				if len(digits) <= 7 && n <= c.most {
					holdRead(t, text, c.make(n))
				} else {
					holdMistake(t, text, at)
				}
			}
		}
		// Some of these would be small numbers if they wrapped round.
		for _, wrong := range []string{"-0", "-1", "+0", "+1", "0x1", "1_0", "0b1", "1e1", "1.0", "1.", ".1", "0a", "a0", "1'", "1-", "1,", "00000000", "00000001", "0000000000000", "12345678", "10000000", "18446744073709551616", "18446744073709551617", "4294967296", "\u0661", "1\x00", "\x001", "/", ":", "0/", "0:"} {
			holdMistake(t, fmt.Sprintf(c.form, wrong), at)
		}
	}
	for _, none := range []string{"#", "?", "##0", "#?0", "?#0", "??0", "#-1", "0", "7", "00"} {
		holdMistake(t, none, 0)
	}
	// Where a number is wanted, the token's number is not a variable or a hole.
	for _, text := range []string{"[. P #0 #0]", "[. P ?0 #0]", "[. P a #0]", "[. P [ #0]", "[. P ] #0]", "[^ x #0 #0 #0]", "[! x *0 #0 #0]"} {
		holdMistake(t, text, 5)
	}
}

func TestParseTermNames(t *testing.T) {
	long := strings.Repeat("n", impl.MaxName)
	half := strings.Repeat("n", impl.MaxName/2)
	shorts := []string{"a", "Z", "_", "x1", "x'", "_0'", "max", "imax", long}
	points := []string{"a.b", "Nat.succ", "_._", "a.b.c.d", half + "." + half[1:], "a." + long[2:]}
	wrong := []string{"1", "'", "'a", "9a", "a-b", "a+1", "a,b", "a(", "a)", "\u00e9", "a\xff", "a\x00", "..", ".a", "a.", "a..b", "a.1", "a.'", ".a.b", "a.b.", "{", "}", "a}", "}a", "a\"", "a:b", "@", "`", "^a", "=a", "!a", "[", "]", "#0", "*0", "?0", "#", "*", "?", "a#", "a*", "a?", long + "n", half + "." + half, long + ".a", "a." + long, strings.Repeat(long, 1000)}
	for _, name := range slices.Concat(shorts, points) {
		holdRead(t, name, constant(name))
		holdRead(t, name+"{0}", constant(name, zero()))
		holdRead(t, "[. "+name+" 1 #0]", proj(name, 1, variable(0)))
	}
	for _, name := range shorts {
		holdRead(t, "[^ "+name+" 1 #0 #1]", lam(name, 1, variable(0), variable(1)))
		holdRead(t, "[! "+name+" 1 #0 #1]", pi(name, 1, variable(0), variable(1)))
		holdRead(t, "[= "+name+" #0 #1 #2]", let(name, variable(0), variable(1), variable(2)))
	}
	for _, name := range slices.Concat(points, wrong, []string{"a{u}", "^", "!", "=", "."}) {
		holdMistake(t, "[^ "+name+" 1 #0 #1]", 3)
		holdMistake(t, "[! "+name+" 1 #0 #1]", 3)
		holdMistake(t, "[= "+name+" #0 #1 #2]", 3)
	}
	for _, name := range slices.Concat(wrong, []string{"a{u}", "^", "!", "=", "."}) {
		holdMistake(t, "[. "+name+" 1 #0]", 3)
	}
	for _, name := range slices.Concat(wrong, []string{"^", "!", "=", "."}) {
		// These begin another term, or are one.
		if slices.Contains([]string{"[", "#0", "*0", "?0"}, name) {
			continue
		}
		holdMistake(t, name, 0)
		holdMistake(t, "[#0 "+name+"]", 4)
		holdMistake(t, "[   #0 #1] "+name, 11)
		if !strings.ContainsAny(name, "[]") {
			holdMistake(t, name+"{0}", 0)
		}
	}
}

func TestParseTermLevels(t *testing.T) {
	u, v := param("u"), param("v")
	long := strings.Repeat("+0", impl.MaxLevelText/2-1)
	for _, c := range []struct {
		text  string
		level impl.Level
	}{
		{"0", zero()}, {"0000", zero()}, {"1+2", succ(zero(), 3)}, {"63", succ(zero(), 63)}, {"u", u}, {"u+0", u}, {"u+1+02", succ(u, 3)},
		{"max(u,v)", pair(impl.LevelMax, u, v)}, {"imax(u,max(v,0))", pair(impl.LevelImax, u, pair(impl.LevelMax, v, zero()))}, {"max(0,0)+1", succ(pair(impl.LevelMax, zero(), zero()), 1)},
		{"uu" + long, param("uu")},
	} {
		holdRead(t, "*"+c.text, universe(c.level))
		holdRead(t, "f{"+c.text+"}", constant("f", c.level))
		holdRead(t, "f{u,"+c.text+"}", constant("f", u, c.level))
		holdRead(t, "f{"+c.text+",max(u,v)}", constant("f", c.level, pair(impl.LevelMax, u, v)))
		holdRead(t, "[. P 0 f{v,"+c.text+",v}]", proj("P", 0, constant("f", v, c.level, v)))
	}
	seven := "max(a,max(b,max(c,max(d,max(e,max(f,g))))))"
	for _, c := range []struct {
		text string
		code int
	}{
		{"", impl.CodeText}, {"+1", impl.CodeText}, {"u+", impl.CodeText}, {"00000", impl.CodeText}, {"u+00001", impl.CodeText}, {"max", impl.CodeText}, {"max(u)", impl.CodeText}, {"max(u,v", impl.CodeText}, {"max(u,v))", impl.CodeText}, {"max(u,,v)", impl.CodeText}, {"(u)", impl.CodeText}, {"u.v", impl.CodeText}, {"u}", impl.CodeText}, {"{u", impl.CodeText}, {"-1", impl.CodeText}, {"*u", impl.CodeText}, {"u\x00", impl.CodeText}, {"uuu" + long, impl.CodeText},
		{"64", impl.CodeSize}, {"u+64", impl.CodeSize}, {"9999", impl.CodeSize}, {"max(u+31,v+31)", impl.CodeSize}, {seven, impl.CodeSize},
	} {
		if _, code := impl.ParseLevel(c.text); code != c.code {
			t.Fatalf("%q has code %d", short(c.text), code)
		}
		for _, text := range []string{"*" + c.text, "f{" + c.text + "}", "f{u," + c.text + "}", "f{" + c.text + ",u}", "f{u," + c.text + ",v}"} {
			holdMistake(t, text, 0)
			holdMistake(t, " [u "+text+"]", 4)
		}
	}
}

func TestParseTermLevelLists(t *testing.T) {
	u := param("u")
	m := pair(impl.LevelMax, u, u)
	nested := pair(impl.LevelImax, m, pair(impl.LevelMax, m, u))
	holdRead(t, "f{imax(max(u,u),max(max(u,u),u))}", constant("f", nested))
	holdRead(t, "f{imax(max(u,u),max(max(u,u),u)),u,max(u,u)}", constant("f", nested, u, m))
	for count := 1; count <= impl.MaxParams+2; count++ {
		for _, l := range []impl.Level{zero(), u, nested} {
			levels := slices.Repeat([]impl.Level{l}, count)
			if count <= impl.MaxParams {
				holdRead(t, "f"+levelList(levels), constant("f", levels...))
			} else {
				holdMistake(t, "f"+levelList(levels), 0)
				holdMistake(t, "[#0 f"+levelList(levels)+"]", 4)
			}
		}
	}
	for _, text := range []string{
		"f{}", "f{,}", "f{u,}", "f{,u}", "f{u,,u}", "f{,u,u}", "f{u", "f{", "f}", "f{u,v", "f{u}g", "f{u}}", "f{{u}}", "f{u}{u}", "f{u}{}", "f{}{u}", "f{u}+1", "f{u}.g", "f{u}'", "f{u},", "f{(u,v)}", "f{u),(u}", "f{u)(,u}", "f{)u,u(}", "f{(u}", "f{u)}", "f{max(u,u}", "f{max(u},u)", "f{max(u,u)),u}", "{u}", "{}", "{", "}", ".{u}", "f.{u}", "1{u}", "#0{u}", "?0{u}", "*{u}", "*u{u}", "^{u}", "f{ u}", "f{u\x00}", "f{u;v}", "f(u)", "f{" + strings.Repeat("u,", 100000) + "u}", "f{" + strings.Repeat("(", 100000) + "}",
	} {
		holdMistake(t, text, 0)
		holdMistake(t, "[ #0\n"+text+"]", 5)
	}
	// A bracket is a token of its own, whatever braces stand around.
	holdMistake(t, "f{[u]}", 0)
	holdMistake(t, "f[u]", 1)
}

func TestParseTermGivesValidTerms(t *testing.T) {
	t.Parallel()
	r := rand.New(rand.NewSource(53))
	words := append(tokensOf("[ [ [ ] ] ] ^ ! = . x y a.b 0 1 2 3 #0 #1 *u *1 f{u} f{0,max(u,v)} ?2 ?3"), "\n")
	good := 0
	for range 300000 {
		var tokens []string
		for range 1 + r.Intn(9) {
			tokens = append(tokens, words[r.Intn(len(words))])
		}
		text := strings.Join(tokens, " ")
		x, code, at := impl.ParseTerm([]byte(text))
		wantCode, wantAt := slowRead(text)
		if code != wantCode || at != wantAt || impl.TermOk(x) != (code == 0) {
			t.Fatalf("%q: code %d at %d, not %d at %d", text, code, at, wantCode, wantAt)
		}
		if code == 0 {
			good++
			holdText(t, x, tidy(tokensOf(text)))
		}
	}
	if good < 1000 {
		t.Errorf("only %d of the texts were terms", good)
	}
}
