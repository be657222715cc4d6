package tests

import (
	"slices"
	"strings"
	"testing"

	"loop.example/g00005/impl"
)

func TestImportOfWords(t *testing.T) {
	holdLines(t, []lineCase{
		{"axiom a - Nat", 0},
		{"def a - Nat Nat.zero", 0},
		{"family F - 0 *1", 0},
		{"", impl.CodeText},
		{" ", impl.CodeText},
		{"  ", impl.CodeText},
		{"what", impl.CodeText},
		{"what a - Nat", impl.CodeText},
		{"Axiom a - Nat", impl.CodeText},
		{"AXIOM a - Nat", impl.CodeText},
		{"axioms a - Nat", impl.CodeText},
		{"axio a - Nat", impl.CodeText},
		{"ax iom a - Nat", impl.CodeText},
		{"definition a - Nat Nat.zero", impl.CodeText},
		{"lemma a - *0 *0", impl.CodeText},
		{"constructor c Nat", impl.CodeText},
		{"inductive F - 0 *1", impl.CodeText},
		{"sum 0", impl.CodeText},
		{"#0", impl.CodeText},
		{"[", impl.CodeText},
		{"Nat", impl.CodeText},
		{"-", impl.CodeText},
		{"axiom", impl.CodeText},
		{"def", impl.CodeText},
		{"theorem", impl.CodeText},
		{"family", impl.CodeText},
		{"ctor", impl.CodeText},
		{"axiom ", impl.CodeText},
		{"def ", impl.CodeText},
		{"theorem ", impl.CodeText},
		{"family ", impl.CodeText},
		{"ctor ", impl.CodeText},
		// blanks between words
		{"axiom  a - Nat", impl.CodeText},
		{"axiom a  - Nat", impl.CodeText},
		{" axiom a - Nat", impl.CodeText},
		{"  axiom a - Nat", impl.CodeText},
		{"axiom a -  Nat", 0},
		{"family  F - 0 *1", impl.CodeText},
		{"family F  - 0 *1", impl.CodeText},
		{"family F -  0 *1", impl.CodeText},
		{"family F - 0  *1", 0},
		{"def a - Nat Nat.zero ", 0},
		// too few words
		{"axiom a", impl.CodeText},
		{"axiom a ", impl.CodeText},
		{"axiom a -", impl.CodeText},
		{"axiom a - ", impl.CodeText},
		{"axiom a -  ", impl.CodeText},
		{"axiom a Nat", impl.CodeText},
		{"axiom - Nat", impl.CodeText},
		{"def a", impl.CodeText},
		{"def a -", impl.CodeText},
		{"def a - ", impl.CodeText},
		{"def a Nat Nat.zero", impl.CodeText},
		{"family F", impl.CodeText},
		{"family F -", impl.CodeText},
		{"family F - 0", impl.CodeText},
		{"family F - 0 ", impl.CodeText},
		{"family F 0 *1", impl.CodeText},
		{"family F - *1", impl.CodeText},
		// too many
		{"axiom a - 0 Nat", impl.CodeText},
		{"axiom a b - Nat", impl.CodeText},
		{"axiom a - - Nat", impl.CodeText},
		{"def a - 0 Nat Nat.zero", impl.CodeText},
		{"family F - 0 0 *1", impl.CodeText},
		{"family F - - 0 *1", impl.CodeText},
		{"family F G - 0 *1", impl.CodeText},
		// other bytes between words
		{"axiom\ta - Nat", impl.CodeText},
		{"axiom\ra - Nat", impl.CodeText},
		{"axiom\x00a - Nat", impl.CodeText},
		{"axiom\xa0a - Nat", impl.CodeText},
		{"axiom a\t- Nat", impl.CodeText},
		{"axiom a -\tNat", impl.CodeText},
		{"axiom a - \tNat", impl.CodeText},
		{"axiom a - Nat\t", impl.CodeText},
		{"axiom a - Nat\r", impl.CodeText},
		{"axiom a - Nat\x00", impl.CodeText},
		{"\taxiom a - Nat", impl.CodeText},
		{"\xef\xbb\xbfaxiom a - Nat", impl.CodeText},
	})
}

// NAME is any text without blanks: what is no name is not shaped, so that the
// code is that of the kernel.
func TestImportOfNames(t *testing.T) {
	var cases []lineCase
	for _, name := range []string{
		"1", "1a", "-", ",", "a,b", "a-b", ".", "a.", ".a", "a..b", "*1", "#0", "?0", "[", "]", "[a", "a]", "{", "Nat{u}", "\x00", "\t", "\r", "a\tb", "a\rb", "\x80", "\xff\xfe", "\xc3\xa4", "a\x00", "sum", "ctor",
		strings.Repeat("a", 36), strings.Repeat("a", 37), strings.Repeat("a", 41), strings.Repeat("a", 5000), "axiom", "max", "a.b", "_", "'", "a'",
	} {
		code := impl.CodeInput
		if impl.NameOk(name) && len(name) <= 36 {
			code = 0
		}
		cases = append(cases,
			lineCase{"axiom " + name + " - Nat", code},
			lineCase{"def " + name + " - Nat Nat.zero", code},
			lineCase{"family " + name + " - 0 *1", code},
			lineCase{"axiom " + name, impl.CodeText},
			lineCase{"axiom " + name + " Nat", impl.CodeText},
		)
		// the names of constructors are any names
		if impl.NameOk(name) && len(name) == 37 {
			code = 0
		}
		holdImport(t, summed("family F - 0 *1\nctor "+name+" F\n"), 10, min(code, 1), code)
	}
	holdLines(t, cases)
}

func TestImportOfParams(t *testing.T) {
	var cases []lineCase
	for _, c := range []lineCase{
		{"-", 0}, {"u", 0}, {"u,v", 0}, {"a,b,c,d,e,f", 0}, {"_,u',U1", 0},
		// empty parts
		{",", impl.CodeText}, {",u", impl.CodeText}, {"u,", impl.CodeText}, {"u,,v", impl.CodeText}, {",,", impl.CodeText}, {"-,", impl.CodeText}, {",-", impl.CodeText},
		// blanks
		{"u, v", impl.CodeText}, {"u ,v", impl.CodeText}, {"u v", impl.CodeText}, {" u", impl.CodeText}, {"", impl.CodeText},
		// such texts, that are no Params
		{"u,u", impl.CodeInput}, {"a,b,c,d,e,f,g", impl.CodeInput}, {"--", impl.CodeInput}, {"u,-", impl.CodeInput}, {"-,u", impl.CodeInput}, {"-,-", impl.CodeInput}, {"-u", impl.CodeInput},
		{"1", impl.CodeInput}, {"a.b", impl.CodeInput}, {"max", impl.CodeInput}, {"u,imax", impl.CodeInput}, {"u;v", impl.CodeInput}, {"u\tv", impl.CodeInput}, {"\x00", impl.CodeInput}, {"u\r", impl.CodeInput}, {"\x80,\xff", impl.CodeInput},
		{"[", impl.CodeInput}, {"]", impl.CodeInput}, {"[u]", impl.CodeInput}, {"{u}", impl.CodeInput}, {"*u", impl.CodeInput}, {strings.Repeat("u", 41), impl.CodeInput}, {strings.Repeat("u", 40), 0},
	} {
		cases = append(cases,
			lineCase{"axiom a " + c.line + " Nat", c.code},
			lineCase{"def a " + c.line + " Nat Nat.zero", c.code},
			lineCase{"family F " + c.line + " 0 *1", c.code},
		)
	}
	holdLines(t, cases)
	// the Params in their order
	for _, text := range []string{"u,v", "v,u", "f,e,d,c,b,a"} {
		e, _, _ := impl.Import([]byte(summed("axiom a "+text+" *1\n")), 10)
		if len(e.Decls) != 1 || !slices.Equal(e.Decls[0].Params, strings.Split(text, ",")) {
			t.Errorf("%s: %v", text, e.Decls)
		}
	}
}

func TestImportOfFixed(t *testing.T) {
	pis := over(12, "Nat", "*1")
	var cases []lineCase
	for _, c := range []lineCase{
		{"0", 0}, {"00", 0}, {"000", 0}, {"1", 0}, {"01", 0}, {"001", 0}, {"10", 0}, {"12", 0}, {"012", 0},
		{"13", impl.CodeFamily}, {"50", impl.CodeFamily}, {"050", impl.CodeFamily}, {"51", impl.CodeInput}, {"051", impl.CodeInput}, {"100", impl.CodeInput}, {"999", impl.CodeInput},
		{"0000", impl.CodeText}, {"0001", impl.CodeText}, {"1000", impl.CodeText}, {"9999999999999999999999", impl.CodeText}, {strings.Repeat("0", 300), impl.CodeText},
		{"", impl.CodeText}, {"-", impl.CodeText}, {"x", impl.CodeText}, {"-1", impl.CodeText}, {"+1", impl.CodeText}, {"-0", impl.CodeText}, {"1x", impl.CodeText}, {"x1", impl.CodeText}, {"0x1", impl.CodeText}, {"1.0", impl.CodeText}, {"1_0", impl.CodeText},
		{"1,2", impl.CodeText}, {"1\t", impl.CodeText}, {"\x001", impl.CodeText}, {"\xd9\xa1", impl.CodeText}, {"1e1", impl.CodeText}, {"*1", impl.CodeText}, {"[", impl.CodeText}, {"/", impl.CodeText}, {":", impl.CodeText},
	} {
		cases = append(cases, lineCase{"family F - " + c.line + " " + pis, c.code})
	}
	holdLines(t, cases)
	for text, want := range map[string]int{"0": 0, "007": 7, "12": 12, "012": 12, "000": 0} {
		e, _, _ := impl.Import([]byte(summed(natText+"family F - "+text+" "+pis+"\n")), 10)
		if len(e.Decls) != 2 || e.Decls[1].Fixed != want {
			t.Errorf("%s: %v", text, len(e.Decls))
		}
	}
}

// Where a constructor's line may stand.
func TestImportOfConstructors(t *testing.T) {
	ctor := "ctor c F\n"
	for _, c := range []struct {
		text       string
		line, code int
	}{
		{ctor, 1, impl.CodeText},
		{ctor + "family F - 0 *1\n", 1, impl.CodeText},
		{"family F - 0 *1\n" + ctor, 0, 0},
		{"family F - 0 *1\nctor a F\nctor b F\n" + ctor, 0, 0},
		{"axiom F - *1\n" + ctor, 2, impl.CodeText},
		{"def F - *2 *1\n" + ctor, 2, impl.CodeText},
		{"theorem F - *0 *0\n" + ctor, 2, impl.CodeText},
		{eqText + "quot\n" + ctor, 4, impl.CodeText},
		{"family F - 0 *1\naxiom a - F\n" + ctor, 3, impl.CodeText},
		{"family F - 0 *1\nctor a F\naxiom b - F\n" + ctor, 4, impl.CodeText},
		{"family F - 0 *1\nctor a F\nquot\n" + ctor, 4, impl.CodeText},
		{"family F - 0 *1\n\n" + ctor, 2, impl.CodeText},
		// a family of its own each
		{"family F - 0 *1\nctor a F\nfamily G - 0 *1\nctor b G\nctor d [! f 0 F G]\n", 0, 0},
		{"family F - 0 *1\nctor a F\nfamily G - 0 *1\nctor b F\n", 3, impl.CodeCtor},
		{"family F - 0 *1\nctor a G\nfamily G - 0 *1\nctor b G\n", 1, impl.CodeCtor},
		// the form of the line itself
		{"family F - 0 *1\nctor c\n", 2, impl.CodeText},
		{"family F - 0 *1\nctor c \n", 2, impl.CodeText},
		{"family F - 0 *1\nctor F\n", 2, impl.CodeText},
		{"family F - 0 *1\nctor  c F\n", 2, impl.CodeText},
		{"family F - 0 *1\nctor c  F \n", 0, 0},
		{"family F - 0 *1\nctor c - F\n", 2, impl.CodeText},
		{"family F - 0 *1\nctor c F F\n", 2, impl.CodeText},
		{"family F - 0 *1\nctor c 0 F\n", 2, impl.CodeText},
		{"family F - 0 *1\n ctor c F\n", 2, impl.CodeText},
		{"family F - 0 *1\nctor c u F\n", 2, impl.CodeText},
		{"family F - 0 *1\nctor c [F\n", 2, impl.CodeText},
		{"family F - 0 *1\nctor c F ctor d F\n", 2, impl.CodeText},
		{"family F - 0 *1 ctor c F\n", 1, impl.CodeText},
	} {
		holdImport(t, summed(c.text), 10, c.line, c.code)
	}
}

func TestImportOfQuotients(t *testing.T) {
	for _, c := range []struct {
		line string
		code int
	}{
		{"quot", 0}, {"quot ", impl.CodeText}, {" quot", impl.CodeText}, {"quot -", impl.CodeText}, {"quot Quot", impl.CodeText}, {"quot quot", impl.CodeText}, {"quot *1", impl.CodeText},
		{"Quot", impl.CodeText}, {"quo", impl.CodeText}, {"quots", impl.CodeText}, {"quotients", impl.CodeText}, {"quot\t", impl.CodeText}, {"quot\r", impl.CodeText}, {"quot\x00", impl.CodeText}, {"quot  ", impl.CodeText},
	} {
		line := 3
		if c.code == 0 {
			line = 0
		}
		holdImport(t, summed(eqText+c.line+"\n"), 10, line, c.code)
		holdImport(t, summed(eqText+c.line+"\naxiom a - *1\n"), 10, line, c.code)
	}
}

// Terms, and the blanks around them.
func TestImportOfTerms(t *testing.T) {
	holdLines(t, []lineCase{
		{"axiom a -    Nat", 0},
		{"axiom a - Nat    ", 0},
		{"axiom a -   [  !   n   0   Nat   Nat  ]  ", 0},
		{"axiom a - [! n 0 Nat Nat ]", 0},
		{"axiom a - [!\tn 0 Nat Nat]", impl.CodeText},
		{"axiom a - [! n 0 Nat\rNat]", impl.CodeText},
		{"axiom a - [! n 0 Nat Nat\x00]", impl.CodeText},
		{"axiom a - Na\x80t", impl.CodeText},
		{"axiom a - Nat Nat", impl.CodeText},
		{"axiom a - Nat[Nat Nat]", impl.CodeText},
		{"axiom a - [Nat Nat]]", impl.CodeText},
		{"axiom a - [[Nat Nat]", impl.CodeText},
		{"axiom a - [Nat Nat", impl.CodeText},
		{"axiom a - ]", impl.CodeText},
		{"axiom a - ] Nat", impl.CodeText},
		{"axiom a - [", impl.CodeText},
		{"axiom a - []", impl.CodeText},
		{"axiom a - [Nat]", impl.CodeText},
		{"axiom a - [Nat Nat Nat]", impl.CodeText},
		{"axiom a - [! n 3 Nat Nat]", impl.CodeText},
		{"axiom a - [! n.m 0 Nat Nat]", impl.CodeText},
		{"axiom a - [! n 0 Nat]", impl.CodeText},
		{"axiom a - *", impl.CodeText},
		{"axiom a - *max(u", impl.CodeText},
		{"axiom a - *65", impl.CodeText},
		{"axiom a - *64", impl.CodeText},
		{"axiom a - *63", impl.CodeSize},
		{"axiom a - *62", 0},
		{"axiom a - *0062", 0},
		{"axiom a - *00062", impl.CodeText},
		{"axiom a - *1+0+1", 0},
		{"axiom a - #20001", impl.CodeText},
		{"axiom a - #20000", impl.CodeInput},
		{"axiom a - Nat{}", impl.CodeText},
		{"axiom a - Nat{0", impl.CodeText},
		{"axiom a - Nat{0}", impl.CodeConst},
		{"axiom a - 1", impl.CodeText},
		{"axiom a - -", impl.CodeText},
		{"axiom a - " + strings.Repeat("n", 41), impl.CodeText},
		{"axiom a - " + strings.Repeat("n", 40), impl.CodeConst},
		{"axiom a -[! n 0 Nat Nat]", impl.CodeText},
		{"axiom a [! n 0 Nat Nat]", impl.CodeText},
		{"axiom a - [. Nat 0 Nat.zero]", impl.CodeProj},
		{"axiom a - [= n Nat Nat.zero Nat]", 0},
		// two terms
		{"def a - Nat Nat.zero", 0},
		{"def a - Nat   Nat.zero  ", 0},
		{"def a -   Nat   Nat.zero", 0},
		{"def a - Nat [Nat.succ Nat.zero]", 0},
		{"def a - Nat[Nat.succ Nat.zero]", 0},
		{"def a - Nat[ Nat.succ  Nat.zero]  ", 0},
		{"def a - [! n 0 Nat Nat]Nat.succ", 0},
		{"def a - [! n 0 Nat Nat] Nat.succ", 0},
		{"def a - [! n 0 Nat Nat][^ n 0 Nat #0]", 0},
		{"def a - [! n 0 Nat Nat]   [^ n 0 Nat #0]", 0},
		{"def a - [= n *1 Nat #0]Nat.zero", 0},
		{"def a - *1Nat", impl.CodeText},
		{"def a - *1 Nat", 0},
		{"def a - NatNat.zero", impl.CodeText},
		{"def a - Nat", impl.CodeText},
		{"def a - Nat ", impl.CodeText},
		{"def a - [! n 0 Nat Nat]", impl.CodeText},
		{"def a - [! n 0 Nat Nat] ", impl.CodeText},
		{"def a - Nat Nat.zero Nat.zero", impl.CodeText},
		{"def a - Nat Nat.zero]", impl.CodeText},
		{"def a - Nat ]Nat.zero", impl.CodeText},
		{"def a - [Nat Nat.zero", impl.CodeText},
		{"def a - ]Nat Nat.zero", impl.CodeText},
		{"def a - ] [", impl.CodeText},
		{"def a - [[ ]]", impl.CodeText},
		{"def a - [Nat] Nat.zero", impl.CodeText},
		{"def a - Nat [Nat.zero]", impl.CodeText},
		{"def a - Nat [Nat.succ Nat.zero", impl.CodeText},
		{"def a - Nat [Nat.succ Nat.zero] Nat.zero", impl.CodeText},
		{"def a - Nat [Nat.succ Nat.zero]Nat.zero", impl.CodeText},
		{"def a - [! n 0 Nat Nat][^ n 0 Nat #0]]", impl.CodeText},
		{"def a - Nat\tNat.zero", impl.CodeText},
		{"def a - Nat \tNat.zero", impl.CodeText},
		{"def a - Nat Nat.zero\x00", impl.CodeText},
		{"def a - Nat \x80", impl.CodeText},
		{"def a - 1 Nat.zero", impl.CodeText},
		{"def a - Nat 1", impl.CodeText},
		{"theorem a - *0 *0", impl.CodeProp},
		{"theorem a - *0", impl.CodeText},
		{"theorem a - *0 *0 *0", impl.CodeText},
		{"theorem a - [! p 0 *0 [! h 0 #0 #1]][^ p 0 *0[^ h 0 #0 #0]]", 0},
		// one term
		{"family F - 0 *1 *1", impl.CodeText},
		{"family F - 0 *1[Nat Nat]", impl.CodeText},
		{"family F - 0 [! n 0 Nat *1 ]  ", 0},
	})
}

// A line with blanks is read as the line without them.
func TestImportOfBlanks(t *testing.T) {
	text := slowExport(envOf(exportDecls()...))
	lines := strings.SplitAfter(text, "\n")
	wide := ""
	for _, line := range lines[:len(lines)-2] {
		words := strings.SplitAfterN(line, " ", 5)
		fixed := map[string]int{"axiom": 3, "def": 3, "theorem": 3, "family": 4, "ctor": 2, "quot\n": 1}[strings.TrimSuffix(words[0], " ")]
		words = strings.SplitAfterN(line, " ", fixed+1)
		if len(words) <= fixed {
			wide += line
			continue
		}
		terms := strings.NewReplacer("[", "  [ ", "]", " ]  ", " ", "   ").Replace(strings.TrimSuffix(words[fixed], "\n"))
		wide += strings.Join(words[:fixed], "") + terms + "\n"
	}
	if len(wide) < len(text)+500 {
		t.Fatalf("%d bytes", len(wide))
	}
	holdImported(t, summed(wide), 1000, envOf(exportDecls()...))
	holdImport(t, summed(wide), 1000, 0, 0)
	e, _, _ := impl.Import([]byte(summed(wide)), 1000)
	holdExport(t, "without the blanks", e, text)
}
