package tests

import (
	"math/rand"
	"slices"
	"strings"
	"testing"

	"loop.example/g00005/impl"
)

// Drawn texts are read as the trees that they were drawn with.
func TestParseDrawnTexts(t *testing.T) {
	t.Parallel()
	r := rand.New(rand.NewSource(141))
	seen := map[int]int{}
	for i := range 6000 {
		start := []string{"term", "file"}[i%2]
		text, _, want := madeText(r, start, 1+r.Intn(3))
		if len(text) > impl.MaxSource {
			continue
		}
		if want.count() > impl.MaxTrees || want.tall() > impl.MaxTall {
			holdParseCode(t, parseOf(start), text, impl.CodeSize, 0)
			continue
		}
		tree, code, at := parseOf(start)(text)
		if code != 0 || at != 0 || !equalTrees(tree, want.tree(), true) {
			t.Fatalf("%q: code %d at %d, read as\n%s, not\n%s", text, code, at, surfOf(tree).spelt(), want.spelt())
		}
		if !impl.TreeOk(tree) || !impl.SameTree(tree, want.tree()) {
			t.Fatalf("%q is read as no valid tree, or another one", text)
		}
		if _, ok := impl.Print(tree); ok {
			holdReadAgain(t, tree)
		}
		for _, f := range tree.Forms {
			seen[f.K]++
		}
	}
	for kind := impl.FormName; kind <= impl.FormFile; kind++ {
		if seen[kind] < 25 {
			t.Errorf("only %d forms of kind %d", seen[kind], kind)
		}
	}
}

// holdAsGrammar holds the code and the offset of a text against the grammar.
func holdAsGrammar(t *testing.T, start string, text string) int {
	t.Helper()
	wantCode, wantAt := slowSource(start, text)
	tree, code, at := parseOf(start)(text)
	if code == impl.CodeSize && wantCode == 0 {
		return code
	}
	if code != wantCode || at != wantAt || impl.TreeOk(tree) != (code == 0) {
		t.Fatalf("%s %q: code %d at %d, not %d at %d", start, text, code, at, wantCode, wantAt)
	}
	return code
}

var surfVocabulary = strings.Fields(`x y a.b max imax intro refl exact 0 3 50 51 100 101 999 fun forall let Prop Type Sort axiom def theorem by family class instance quotient eval check _ ( ) { } [ ] : := => -> <- , ; | @ = + * /\ \/ . .{`)

// Drawn texts with one token changed have the code that the grammar tells.
func TestParseChangedTexts(t *testing.T) {
	t.Parallel()
	r := rand.New(rand.NewSource(142))
	codes := map[int]int{}
	for i := range 12000 {
		start := []string{"term", "file"}[i%2]
		_, tokens, _ := madeText(r, start, 1+r.Intn(2))
		if len(tokens) == 0 || len(tokens) > 60 {
			continue
		}
		at := r.Intn(len(tokens))
		tokens = slices.Clone(tokens)
		switch r.Intn(5) {
		case 0:
			tokens[at] = surfVocabulary[r.Intn(len(surfVocabulary))]
		case 1:
			tokens = slices.Delete(tokens, at, at+1)
		case 2:
			tokens = slices.Insert(tokens, at, surfVocabulary[r.Intn(len(surfVocabulary))])
		case 3:
			tokens = tokens[:at]
		case 4:
			other := r.Intn(len(tokens))
			tokens[at], tokens[other] = tokens[other], tokens[at]
		}
		text, _ := layOut(r, tokens)
		codes[holdAsGrammar(t, start, text)]++
	}
	if codes[0] < 500 || codes[impl.CodeText] < 500 {
		t.Errorf("codes %v", codes)
	}
}

// holdNextTokens lays every token behind a text with which a text can go on.
func holdNextTokens(t *testing.T, c *earleyChart, front string) []string {
	t.Helper()
	var next []string
	parse := parseOf(c.start)
	if c.whole() {
		if tree, code, at := parse(front); code == impl.CodeText || at != 0 || impl.TreeOk(tree) != (code == 0) {
			t.Fatalf("%q: code %d at %d", front, code, at)
		}
	} else {
		holdParseCode(t, parse, front, impl.CodeText, len(front))
	}
	for _, tok := range surfVocabulary {
		tokens, _, _ := slowTokens(tok)
		if c.step(tokens[0]) {
			c.back()
			next = append(next, tok)
			continue
		}
		holdParseCode(t, parse, front+" "+tok, impl.CodeText, len(front)+1)
		holdParseCode(t, parse, front+" "+tok+" ) x", impl.CodeText, len(front)+1)
	}
	if t.Failed() {
		t.FailNow()
	}
	return next
}

// behind steps through the tokens of a text, which can go on.
func behindText(t *testing.T, start string, text string) *earleyChart {
	t.Helper()
	c := slowGrammar.chart(start)
	tokens, _, _ := slowTokens(text)
	for _, tok := range tokens {
		if !c.step(tok) {
			t.Fatalf("%q can't go on at %d", text, tok.At)
		}
	}
	return c
}

// Texts that grow by a drawn token at a time, with every token behind each.
func TestParseEveryNextToken(t *testing.T) {
	t.Parallel()
	r := rand.New(rand.NewSource(143))
	for i := range 400 {
		start := []string{"term", "file"}[i%2]
		c := slowGrammar.chart(start)
		front := ""
		for range 12 {
			next := holdNextTokens(t, c, front)
			if len(next) == 0 {
				break
			}
			tok := next[r.Intn(len(next))]
			tokens, _, _ := slowTokens(tok)
			c.step(tokens[0])
			front += " " + tok
		}
	}
}

// Every row of three tokens, and of two behind many beginnings.
func TestParseEveryRowOfTokens(t *testing.T) {
	t.Parallel()
	var walk func(c *earleyChart, front string, left int)
	walk = func(c *earleyChart, front string, left int) {
		for _, tok := range holdNextTokens(t, c, front) {
			if left > 0 {
				tokens, _, _ := slowTokens(tok)
				c.step(tokens[0])
				walk(c, front+" "+tok, left-1)
				c.back()
			}
		}
	}
	walk(slowGrammar.chart("file"), "", 3)
	walk(slowGrammar.chart("term"), "", 2)
	for start, fronts := range map[string][]string{
		"term": {"f x", "fun x", "fun (x y : A)", "forall (x : A)", "let x", "let x : A", "let x := v", "let x := v ; b", "( x", "( x : A", "@ f .{ u", "@ f .{ u , v , u , v , u", "@ f .{ u , v , u , v , u , v", "f .{ max ( u", "f .{ max ( u , v", "f .{ max ( u , v ) , 1 , 2 , 3 , 4", "Type", "Type u", "Type 3", "Type max", "Type max ( u", "Type ( u", "Type ( u + 1", "Sort", "Sort u", "Sort ( u )", "Sort imax ( 1 , 2 )", "Sort ( max ( u", "a = b", `a \/ b`, `a /\ b`, "a + b", "a * b", "a -> b", "x .", "x . 1", "Type . 1", "Prop"},
		"file": {"axiom a", "axiom a .{ u", "axiom a .{ u , v", "axiom a .{ a , b , c , d , e", "axiom a .{ a , b , c , d , e , f", "axiom a ( x", "axiom a ( x : A )", "axiom a : A", "def f", "def f 3", "def f 3 : A", "def f 3 : A | x => x", "def f : A", "def f { x : A }", "def f { x : A } : B", "def f : A := b", "def f : A | x", "def f : A | c x", "def f : A | c ( d", "def f : A | ( c )", "def f : A | x , y", "def f : A | x => y", "def f .{ u } : A", "instance i : A", "theorem t : A", "theorem t ( x : A ) : B", "theorem t : A by", "theorem t : A by intro", "theorem t : A by intro x", "theorem t : A by exact x", "theorem t : A by rewrite", "theorem t : A by rewrite <-", "theorem t : A by have", "theorem t : A by have x", "theorem t : A by have x : B", "theorem t : A by have x : B := c", "theorem t : A by refl ;", "family F", "family F 3", "family F : A", "family F : A | c", "family F : A | c : B", "class C", "class C 3 : A", "class C : A |", "class C : A | c : B", "quotient", "eval", "eval x", "check Type"},
	} {
		for _, front := range fronts {
			walk(behindText(t, start, front), front, 1)
		}
	}
}

// The slow grammar is held against texts by hand.
func TestSlowGrammar(t *testing.T) {
	for _, c := range []struct {
		start, text string
		code, at    int
	}{
		{"term", "f (x : A).1 -> Type u + 2", 0, 0}, {"term", "f (x", impl.CodeText, 4}, {"term", "fun => x", impl.CodeText, 4}, {"term", "Sort max u", impl.CodeText, 9}, {"term", "Type (A -> B)", impl.CodeText, 8}, {"term", "Sort u (x)", impl.CodeText, 7}, {"term", "a = b = c", impl.CodeText, 6}, {"term", "", impl.CodeText, 0}, {"term", "f.{a,b,c,d,e,f,g}", impl.CodeText, 14}, {"term", "f.{max(a,b),c,d,e,f,g}", 0, 0},
		{"file", "", 0, 0}, {"file", "def f (x : N) : N | 0 => 1", impl.CodeText, 18}, {"file", "def f.{u,u} : N := x", impl.CodeText, 9}, {"file", "theorem t : p by run", impl.CodeText, 17}, {"file", "def f 51 : N | x => x", impl.CodeText, 6},
	} {
		if code, at := slowSource(c.start, c.text); code != c.code || at != c.at {
			t.Errorf("%q: code %d at %d, not %d at %d", c.text, code, at, c.code, c.at)
		}
	}
}
