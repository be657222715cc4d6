package tests

import (
	"math/rand"
	"slices"
	"strconv"
	"strings"
	"testing"

	"loop.example/g00005/impl"
)

// spreadNames is a term of one name so many times, applied to each other in halves.
func spreadNames(name string, times int) surf {
	if times == 1 {
		return surfName(name)
	}
	return surfKind(impl.FormApp, spreadNames(name, times-times/2), spreadNames(name, times/2))
}

// spreadOut is such a term with its text.
func spreadOut(times int) (surf, string) {
	x := spreadNames("x", times)
	return x, slowPrint(x)
}

// holdSized has a text read as a tree of so many forms, or refused when these are
// too many.
func holdSized(t *testing.T, start string, text string, forms int) {
	t.Helper()
	if forms > impl.MaxTrees {
		holdParseCode(t, parseOf(start), text, impl.CodeSize, 0)
		return
	}
	tree, code, at := parseOf(start)(text)
	if code != 0 || at != 0 || len(tree.Forms) != forms || !slowTreeOk(tree) || !impl.TreeOk(tree) {
		t.Errorf("%.100q: code %d at %d, %d forms, not %d", text, code, at, len(tree.Forms), forms)
	}
}

func TestParseManyForms(t *testing.T) {
	for _, names := range []int{1, 2, 3, 1999, 2000, 2001, 2002, 3000} {
		x, text := spreadOut(names)
		holdSized(t, "term", text, 2*names-1)
		holdSized(t, "term", "("+text+").1", 2*names)
		holdSized(t, "term", "fun y => "+text, 2*names+1)
		holdSized(t, "file", "eval "+text, 2*names+1)
		holdSized(t, "file", "quotient eval "+text, 2*names+2)
		holdSized(t, "file", "axiom a : "+text+" quotient", 2*names+2)
		if impl.TreeOk(x.tree()) != (2*names-1 <= impl.MaxTrees) || impl.TreeOk(surfForm(impl.Form{K: impl.FormProj, N: 1}, x).tree()) != (2*names <= impl.MaxTrees) {
			t.Errorf("%d names", names)
		}
		_, ok := impl.Print(x.tree())
		if ok != (2*names-1 <= impl.MaxTrees) {
			t.Errorf("%d names: %v", names, ok)
		}
	}
	for _, count := range []int{1, 3998, 3999, 4000, 4001, 9999} {
		ok := impl.TreeOk(surfForm(impl.Form{K: impl.FormFile}, slices.Repeat([]surf{surfKind(impl.FormQuot)}, count)...).tree())
		if ok != (count+1 <= impl.MaxTrees) {
			t.Errorf("%d quotients: %v", count, ok)
		}
	}
}

// The types of the shorts of a binder, and of the heads of values, are counted as
// often as they stand in the tree.
func TestParseRepeatedTypes(t *testing.T) {
	for _, c := range []struct{ shorts, names int }{{1, 1}, {1, 999}, {2, 998}, {3, 600}, {10, 98}, {10, 99}, {60, 20}, {60, 33}, {61, 33}, {2, 999}, {2, 1000}, {1, 1999}, {1, 1998}} {
		_, typ := spreadOut(c.names)
		shorts := strings.Repeat("y ", c.shorts)
		around := c.shorts * 2 * c.names
		holdSized(t, "term", "fun ("+shorts+": "+typ+") => x", around+1)
		holdSized(t, "term", "forall {"+shorts+": "+typ+"}, x", around+1)
		holdSized(t, "file", "axiom a ("+shorts+": "+typ+") : x", around+3)
		holdSized(t, "file", "def f ["+shorts+": "+typ+"] : x := x", 2*around+4)
		holdSized(t, "file", "theorem t ("+shorts+": "+typ+") : x by refl", around+4)
	}
	// Texts that stand for more forms than memory has room for.
	for _, times := range []int{2, 5, 9} {
		shorts := strings.Repeat("y ", times)
		for _, nested := range []int{10, 100, 500} {
			text := strings.Repeat("fun ("+shorts+": ", nested) + "x" + strings.Repeat(") => x", nested)
			holdParseCode(t, parseForm, text, impl.CodeSize, 0)
			holdParseCode(t, parseFile, "eval "+text, impl.CodeSize, 0)
			holdParseCode(t, parseForm, text+" )", impl.CodeText, len(text)+1)
			holdParseCode(t, parseForm, text[:len(text)-1], impl.CodeText, len(text)-1)
		}
	}
}

func TestParseTallTerms(t *testing.T) {
	// Each text has its innermost form so many steps from the root.
	for _, tall := range []int{1, 50, 99, 100, 101, 102, 1000, 2000} {
		for _, text := range []string{
			"x" + strings.Repeat(".1", tall),
			"x" + strings.Repeat(" y", tall),
			strings.Repeat("x->", tall) + "x",
			strings.Repeat("fun x=>", tall) + "x",
			strings.Repeat("(", tall) + "x" + strings.Repeat(":T)", tall),
			strings.Repeat("let x:=x;", tall) + "x",
		} {
			code := 0
			if tall > impl.MaxTall {
				code = impl.CodeSize
			}
			holdTall(t, parseForm, text, tall, code)
			if tall >= 2000 {
				continue
			}
			if tall > impl.MaxTall-2 {
				code = impl.CodeSize
			}
			holdTall(t, parseFile, "eval "+text, tall+2, code)
		}
	}
	// Each operator puts one form more around the first operand than around the
	// second one.
	for _, count := range []int{49, 50, 51} {
		code := 0
		if 2*count > impl.MaxTall {
			code = impl.CodeSize
		}
		holdTall(t, parseForm, "x"+strings.Repeat("+x", count), 2*count, code)
		holdTall(t, parseForm, "x"+strings.Repeat("*x", count), 2*count, code)
	}
	for _, count := range []int{98, 99, 100} {
		code := 0
		if count+1 > impl.MaxTall {
			code = impl.CodeSize
		}
		holdTall(t, parseForm, "x"+strings.Repeat(`\/x`, count), count+1, code)
		holdTall(t, parseForm, "x"+strings.Repeat(`/\x`, count), count+1, code)
	}
}

func holdTall(t *testing.T, parse surfParse, text string, tall, code int) {
	t.Helper()
	if code != 0 {
		holdParseCode(t, parse, text, code, 0)
		return
	}
	tree, got, at := parse(text)
	if got != 0 || at != 0 || surfOf(tree).tall() != tall || !slowTreeOk(tree) {
		t.Errorf("%.60q: code %d at %d", text, got, at)
	}
}

func TestTreeOkTallTrees(t *testing.T) {
	for _, tall := range []int{0, 1, 98, 99, 100, 101, 102, 3000} {
		x := surfName("x")
		for range tall {
			x = surfForm(impl.Form{K: impl.FormProj, N: 1}, x)
		}
		tree := x.tree()
		if impl.TreeOk(tree) != (tall <= impl.MaxTall) || impl.SameTree(tree, tree) != (tall <= impl.MaxTall) {
			t.Errorf("%d steps", tall)
		}
		if _, ok := impl.Print(tree); ok != (tall <= impl.MaxTall) {
			t.Errorf("%d steps are printed: %v", tall, ok)
		}
		file := surfKind(impl.FormFile, surfKind(impl.FormQuot), surfKind(impl.FormEval, x), surfKind(impl.FormQuot)).tree()
		if impl.TreeOk(file) != (tall+2 <= impl.MaxTall) {
			t.Errorf("%d steps and two more", tall)
		}
	}
}

func TestParsePatternNumbers(t *testing.T) {
	// The root, the clauses and the clause stand over a pattern.
	for _, n := range []int{0, 1, 96, 97, 98, 99, 100} {
		text := "def f : T | " + strconv.Itoa(n) + " => x"
		if n+3 > impl.MaxTall {
			holdParseCode(t, parseFile, text, impl.CodeSize, 0)
			continue
		}
		holdSized(t, "file", text, n+6)
		holdSized(t, "file", "def f : T | a, "+strconv.Itoa(n)+" => x", n+7)
		if n+4 <= impl.MaxTall {
			holdSized(t, "file", "def f : T | c "+strconv.Itoa(n)+" => x", n+7)
		} else {
			holdParseCode(t, parseFile, "def f : T | c "+strconv.Itoa(n)+" => x", impl.CodeSize, 0)
		}
	}
	forms := func(count int) int { return 5 + 91*count }
	for _, count := range []int{1, 43, 44, 1000, 6000} {
		holdSized(t, "file", "def f : T | 90"+strings.Repeat(",90", count-1)+" => x", forms(count))
	}
	holdSized(t, "file", "def f : T | 90"+strings.Repeat(",90", 42)+",81 => x", impl.MaxTrees)
	holdSized(t, "file", "def f : T | 90"+strings.Repeat(",90", 42)+",82 => x", impl.MaxTrees+1)
}

func TestParseGreatLevels(t *testing.T) {
	for _, c := range []struct {
		base string
		ok   bool
	}{
		{"63", true}, {"64", false}, {"999", false}, {"(u + 63)", true}, {"(u + 64)", false}, {"((u + 32) + 31)", true}, {"((u + 32) + 32)", false}, {"max(30, 31)", true}, {"max(31, 31)", false}, {"imax(u + 30, v + 31)", true}, {"imax(u + 31, v + 31)", false},
		{"max(a,max(b,max(c,max(d,max(e,f)))))", true}, {"max(a,max(b,max(c,max(d,max(e,max(f,g))))))", false}, {"max(a,max(b,max(c,max(d,max(e,max(f,a))))))", true},
		{strings.Repeat("(", 5000) + "u" + strings.Repeat(")", 5000), true}, {strings.Repeat("max(", 31) + "u" + strings.Repeat(",u)", 31), true}, {strings.Repeat("max(", 32) + "u" + strings.Repeat(",u)", 32), false}, {strings.Repeat("max(", 2000) + "u" + strings.Repeat(",u)", 2000), false},
	} {
		for _, around := range []struct {
			front, behind string
			forms         int
		}{{"Sort ", "", 1}, {"f.{", "}", 1}, {"@f.{u,", ",v}", 1}, {"fun (x : Sort ", ") => x", 3}, {"f (Sort ", ").1", 4}} {
			text := around.front + c.base + around.behind
			if c.ok {
				holdSized(t, "term", text, around.forms)
			} else {
				holdParseCode(t, parseForm, text, impl.CodeSize, 0)
				holdParseCode(t, parseForm, text+" )", impl.CodeText, len(text)+1)
			}
		}
	}
	// `Type` puts one more around.
	for _, text := range []string{"Type 63", "Type (u + 63)", "Type max(31, 30)", "Type 999"} {
		holdParseCode(t, parseForm, text, impl.CodeSize, 0)
	}
	for _, text := range []string{"Type 62", "Type (u + 62)", "Type max(30, 30)", "Type"} {
		holdSized(t, "term", text, 1)
	}
}

func TestParseLongTexts(t *testing.T) {
	for _, c := range []struct{ start, text string }{{"term", "x"}, {"term", "fun x => x"}, {"file", "quotient"}, {"file", ""}, {"file", "axiom a : A"}} {
		for _, filling := range []string{" ", "\n", "-"} {
			full := c.text + " " + strings.Repeat(filling, impl.MaxSource-len(c.text)-1)
			tree, code, at := parseOf(c.start)(full)
			if code != 0 || at != 0 || !impl.TreeOk(tree) {
				t.Errorf("%.20q and so on: code %d at %d", full, code, at)
			}
			holdParseCode(t, parseOf(c.start), full+filling, impl.CodeSize, 0)
			holdParseCode(t, parseOf(c.start), full+full, impl.CodeSize, 0)
		}
	}
	// Brackets make no forms, whatever their number.
	inside := (impl.MaxSource - 1) / 2
	holdTree(t, parseForm, strings.Repeat("(", inside)+"x"+strings.Repeat(")", inside), "name@"+strconv.Itoa(inside)+":x")
	holdParseCode(t, parseForm, strings.Repeat("(", inside)+"x"+strings.Repeat(")", inside-1), impl.CodeText, 2*inside)
	holdParseCode(t, parseForm, strings.Repeat("(", inside)+"x"+strings.Repeat(")", inside+1), impl.CodeText, 2*inside+1)
	patterns := "def f : T | " + strings.Repeat("(", 9000) + "x" + strings.Repeat(")", 9000) + " => x"
	holdTree(t, parseFile, patterns, "file@0(clauses@0:f(name@8:T clause@10(pattern@9012:x name@18017:x)))")
}

// sizedFile has a text of so many bytes: names that are evaluated.
func sizedFile(bytes int) surf {
	file := surfKind(impl.FormFile)
	for bytes > 0 {
		next := min(bytes, 46)
		if bytes > 46 && bytes < 46+7 {
			next = 20
		}
		file.kids = append(file.kids, surfKind(impl.FormEval, surfName(strings.Repeat("x", next-6))))
		bytes -= next
	}
	return file
}

// holdLastToken has terms printed, or not, that differ in the length of their last
// token.
func holdLastToken(t *testing.T) {
	t.Helper()
	left := 0
	var front surf
	for names := 300; left < 5 || left > 35; names++ {
		front = spreadNames(strings.Repeat("x", 40), names)
		left = impl.MaxSource - len(slowPrint(front)) - 1
		if left < 0 {
			t.Fatal("no term is as long as is wanted")
		}
	}
	for _, more := range []int{-3, -2, -1, 0, 1, 5} {
		x := surfKind(impl.FormApp, front, surfName(strings.Repeat("y", left+more)))
		text, ok := impl.Print(x.tree())
		want := slowPrint(x)
		if len(want) != impl.MaxSource+more || ok != (more <= 0) || ok && string(text) != want || !ok && len(text) != 0 {
			t.Errorf("%v of %d bytes", ok, len(want))
		}
		if ok {
			holdReadAgain(t, x.tree())
		}
		// One token more, which begins where all bytes may be used up.
		y := surfKind(impl.FormApp, x, surfName("z"))
		if text, ok := impl.Print(y.tree()); ok != (more <= -2) || len(text) != 0 && !ok || ok && string(text) != slowPrint(y) {
			t.Errorf("%v of %d bytes", ok, len(slowPrint(y)))
		}
	}
}

func TestPrintLongTexts(t *testing.T) {
	for _, bytes := range []int{7, 46, 53, 60, 1000, impl.MaxSource - 1, impl.MaxSource, impl.MaxSource + 1, impl.MaxSource + 2, impl.MaxSource + 46, 2 * impl.MaxSource, 4 * impl.MaxSource} {
		file := sizedFile(bytes)
		if len(slowPrint(file)) != bytes || !impl.TreeOk(file.tree()) {
			t.Fatalf("a text of %d bytes, not %d", len(slowPrint(file)), bytes)
		}
		text, ok := impl.Print(file.tree())
		if ok != (bytes <= impl.MaxSource) || ok && len(text) != bytes || !ok && len(text) != 0 {
			t.Errorf("%d bytes: %v, %d", bytes, ok, len(text))
		}
		if ok {
			holdReadAgain(t, file.tree())
		}
	}
	holdLastToken(t)
	level := succ(levelOfParams(6), 40)
	for i := range level.Nodes {
		if level.Nodes[i].K == impl.LevelParam {
			level.Nodes[i].S = strings.Repeat(level.Nodes[i].S, 40)
		}
	}
	great := surfForm(impl.Form{K: impl.FormName, S: "x", Levels: slices.Repeat([]impl.Level{level}, 6)})
	wide := surfKind(impl.FormFile)
	for range 1999 {
		wide.kids = append(wide.kids, surfKind(impl.FormCheck, great))
	}
	for _, tree := range []impl.Tree{great.tree(), surfKind(impl.FormFile, wide.kids[:9]...).tree(), wide.tree()} {
		want := slowPrint(surfOf(tree))
		text, ok := impl.Print(tree)
		if !impl.TreeOk(tree) || ok != (len(want) <= impl.MaxSource) || ok && string(text) != want {
			t.Errorf("%v of %d bytes", ok, len(want))
		}
	}
}

func TestSurfaceOfAnyBytes(t *testing.T) {
	t.Parallel()
	r := rand.New(rand.NewSource(146))
	for range 15000 {
		text := make([]byte, r.Intn(12))
		for i := range text {
			text[i] = "xu._1  (){}[]:=>-<,;|@+*/\\\n"[r.Intn(27)]
			if r.Intn(20) == 0 {
				text[i] = byte(r.Intn(256))
			}
		}
		front := []string{"", "fun ", "Sort ", "let x", "f.{", "forall ", "Type "}[r.Intn(7)]
		holdAsGrammar(t, "term", front+string(text))
		front = []string{"", "axiom a", "def f", "def f:T|", "theorem t:T by ", "class C", "family F", "eval "}[r.Intn(8)]
		holdAsGrammar(t, "file", front+string(text))
	}
	for range 300 {
		text := make([]byte, r.Intn(3*impl.MaxSource/2))
		r.Read(text)
		tree, code, _ := impl.ParseFile(text)
		if impl.TreeOk(tree) != (code == 0) {
			t.Fatalf("%q: code %d", text, code)
		}
		impl.ParseForm(text)
		impl.Tokens(text)
	}
}
