package tests

import (
	"strconv"
	"strings"
	"testing"

	"loop.example/g00005/impl"
)

// Fuel comes ahead of all else.
func TestImportFuel(t *testing.T) {
	texts := []string{
		"", "\n", "sum 0\n", "sum 1\n", "sum 0", "what\n", summed("what\n"), summed(natText), natText,
		summed(natText + "axiom Nat - Nat\n"), strings.Repeat("x", impl.MaxText+1), strings.Repeat("\n", impl.MaxText+1),
	}
	for _, fuel := range []int{-1, impl.MaxFuel + 1, -1 << 62, 1 << 62} {
		for _, text := range texts {
			holdImport(t, text, fuel, 0, impl.CodeInput)
		}
	}
	for _, fuel := range []int{0, 1, impl.MaxFuel} {
		holdImport(t, "sum 0\n", fuel, 0, 0)
		holdImport(t, summed(natText), fuel, 0, 0)
	}
}

// The empty text, and texts whose last byte is no byte 10: at line 0, whatever
// stands in them.
func TestImportWithoutAnEnd(t *testing.T) {
	for _, text := range []string{
		"", " ", "x", "sum 0", "sum", "sum 0\n ", "sum 0\nx", "\n\n\nx", natText + "sum 862268", natText + "sum 1", "what\nsum 5", "\nsum 0",
		summed(natText) + "\r", summed(natText) + "\x00", "sum 0\r", "sum 0\x00", "\n\x80", "sum 0\x0b", strings.Repeat("x", impl.MaxText),
	} {
		holdImport(t, text, 10, 0, impl.CodeText)
	}
	for _, end := range []byte{0, 9, 13, 32, 48, 128, 138, 255} {
		holdImport(t, natText+"sum 862268"+string([]byte{end}), 10, 0, impl.CodeText)
	}
}

// Texts that are too long come ahead of their lines.
func TestImportOfLongTexts(t *testing.T) {
	most := impl.MaxText
	for _, text := range []string{
		strings.Repeat("x", most+1), strings.Repeat("\n", most+1), strings.Repeat(" ", 2*most),
		strings.Repeat("\n", most-5) + "sum 0\n", summed(strings.Repeat("quot\n", most/5)), strings.Repeat("x", most) + "\n",
	} {
		if len(text) <= most {
			t.Fatalf("only %d bytes", len(text))
		}
		holdImport(t, text, 10, 0, impl.CodeSize)
	}
	// all that there is room for
	holdImport(t, strings.Repeat("x", most), 10, 0, impl.CodeText)
	holdImport(t, strings.Repeat("\n", most), 10, most, impl.CodeText)
	holdImport(t, strings.Repeat("x", most-1)+"\n", 10, 1, impl.CodeText)
	holdImport(t, strings.Repeat("\n", most-6)+"sum 0\n", 10, most-5, impl.CodeSum)
	for count := most - 12; count < most-6; count++ {
		line, code := 1, impl.CodeText
		text := summed(strings.Repeat("\n", count))
		if len(text) > most {
			line, code = 0, impl.CodeSize
		}
		holdImport(t, text, 10, line, code)
	}
}

// The last line is looked at ahead of all others.
func TestImportOfLastLines(t *testing.T) {
	sum := strconv.Itoa(slowSum(natText))
	for _, last := range []string{
		"", " ", "sum", "sum ", "sum  ", "sum x", "sum -1", "sum +" + sum, "sum -" + sum, "sum  " + sum, " sum " + sum, "sum " + sum + " ", "sum " + sum + "x", "sum " + sum + " 0",
		"sum " + sum + "\r", "sum\t" + sum, "sum\x00" + sum, "sum" + sum, "Sum " + sum, "SUM " + sum, "sums " + sum, "su " + sum, "summe " + sum, "quot " + sum, sum, "sum 0x1", "sum 1.0", "sum 1_0",
		"sum 00" + sum, "sum 00000000", "sum 12345678", "sum " + strings.Repeat("0", 100) + sum, "sum " + strings.Repeat("9", 400), "sum \xd9\xa1", "sum 1\x80", "quot", "what", "axiom a - Nat", "sum sum " + sum,
	} {
		holdImport(t, natText+last+"\n", 10, 4, impl.CodeText)
		holdImport(t, last+"\n", 10, 1, impl.CodeText)
		holdImport(t, "what\n\n"+last+"\n", 10, 3, impl.CodeText)
	}
	for _, last := range []string{"0", "1", "862267", "862269", "0862267", "1862271", "9999999", "1000003", "86226", "8622680", "268", "862862"} {
		holdImport(t, natText+"sum "+last+"\n", 10, 4, impl.CodeSum)
	}
	// zeros in front, up to seven digits in all
	holdImport(t, natText+"sum 862268\n", 10, 0, 0)
	holdImport(t, natText+"sum 0862268\n", 10, 0, 0)
	holdImport(t, natText+"sum 00862268\n", 10, 4, impl.CodeText)
	for count := 1; count <= 9; count++ {
		line, code := 0, 0
		if count > 7 {
			line, code = 1, impl.CodeText
		}
		holdImport(t, "sum "+strings.Repeat("0", count)+"\n", 10, line, code)
	}
	// N is no number modulo another
	holdImport(t, "sum 1000003\n", 10, 1, impl.CodeSum)
	holdImport(t, "sum 1\n", 10, 1, impl.CodeSum)
	// a changed line, and a wrong sum, come ahead of lines that are none
	holdImport(t, "what\nsum 1\n", 10, 2, impl.CodeSum)
	holdImport(t, "\n\n\nsum 1\n", 10, 4, impl.CodeSum)
	holdImport(t, natText+"axiom Nat - Nat\nsum 1\n", 10, 5, impl.CodeSum)
	// a line of a sum that is not the last one
	for _, front := range []string{"sum 0\n", "sum 5\n", "sum 1234567\n", "sum\n"} {
		holdImport(t, summed(front), 10, 1, impl.CodeText)
		holdImport(t, summed(natText+front), 10, 4, impl.CodeText)
		holdImport(t, summed(front+natText), 10, 1, impl.CodeText)
	}
	holdImport(t, summed(summed(natText)), 10, 4, impl.CodeText)
	holdImport(t, summed(natText)+summed(natText), 10, 8, impl.CodeSum)
	holdImport(t, "sum 0\nsum 0\n", 10, 2, impl.CodeSum)
	holdImport(t, summed(natText)+"\n", 10, 5, impl.CodeText)
}

// Sums of seven digits and of few, and the sum 0 of some text.
func TestImportOfRareSums(t *testing.T) {
	met := map[int]bool{}
	for i := 0; len(met) < 5 && i < 3000000; i++ {
		text := "axiom a" + strconv.Itoa(i) + " - *1\n"
		sum := impl.SumOf([]byte(text))
		if met[sum] || sum > 1 && sum < 1000000 {
			continue
		}
		met[sum] = true
		e := envOf(declared(impl.KindAxiom, "a"+strconv.Itoa(i), "", "*1", ""))
		holdExport(t, "a rare sum", e, text+"sum "+strconv.Itoa(sum)+"\n")
		holdImported(t, text+"sum "+strconv.Itoa(sum)+"\n", 0, e)
		if sum < 10 {
			holdImported(t, text+"sum 000000"+strconv.Itoa(sum)+"\n", 0, e)
			holdImport(t, text+"sum "+strconv.Itoa(sum+1000003)+"\n", 0, 2, impl.CodeSum)
		}
	}
	if len(met) < 4 {
		t.Errorf("only %d sums", len(met))
	}
}

// The first line with a mistake is told, ahead of any code of a declaration.
func TestImportTellsTheFirstMistake(t *testing.T) {
	wrong := []string{"what\n", "\n", "axiom a -\n", "def a - Nat\n", "ctor c Nat Nat\n", "quot \n", "sum 0\n", "family F - x *1\n", "theorem a - *0 *0 *0\n"}
	refused := []string{"axiom Nat - Nat\n", "axiom a - nothing\n", "axiom 1 - Nat\n", "def d - Nat Nat\n", "quot\n", "family F - 1 *1\n", "axiom a x,x Nat\n", "theorem t - Nat Nat.zero\n"}
	for _, w := range wrong {
		for _, x := range refused {
			holdImport(t, summed(natText+x+w), 100, 5, impl.CodeText)
			holdImport(t, summed(natText+w+x), 100, 4, impl.CodeText)
			holdImport(t, summed(x+natText+"axiom a - Nat\n"+w), 100, 6, impl.CodeText)
			holdImport(t, summed(natText+x+w), 0, 5, impl.CodeText)
		}
		for _, other := range wrong {
			holdImport(t, summed(natText+w+other), 100, 4, impl.CodeText)
			holdImport(t, summed(natText+"axiom a - Nat\n"+w+natText+other), 100, 5, impl.CodeText)
			holdImport(t, natText+w+other+"sum 0\n", 100, 6, impl.CodeSum)
			holdImport(t, natText+w+other+"sum\n", 100, 6, impl.CodeText)
		}
	}
}

// The code of a declaration is told at its first line.
func TestImportTellsTheDeclaration(t *testing.T) {
	for _, c := range []struct {
		text string
		code int
	}{
		{"axiom new x-y Nat\n", impl.CodeInput},
		{"axiom Nat - Nat\n", impl.CodeName},
		{"axiom Nat.zero - Nat\n", impl.CodeName},
		{"axiom Nat.rec - Nat\n", impl.CodeName},
		{natText, impl.CodeName},
		{"family F - 0 *1\nctor Nat.zero F\n", impl.CodeName},
		{"axiom new - nothing\n", impl.CodeConst},
		{"axiom new - [. Nat 0 Nat.zero]\n", impl.CodeProj},
		{"axiom new - *u\n", impl.CodeInput},
		{"axiom new - ?0\n", impl.CodeInput},
		{"axiom new - #0\n", impl.CodeInput},
		{"axiom new - Nat.zero\n", impl.CodeSort},
		{"axiom new - [Nat Nat]\n", impl.CodeFun},
		{"def new - Nat Nat\n", impl.CodeArg},
		{"def new - Nat [Nat.succ Nat]\n", impl.CodeArg},
		{"theorem new - Nat Nat.zero\n", impl.CodeProp},
		{"family F - 1 *1\n", impl.CodeFamily},
		{"family F - 0 Nat\n", impl.CodeFamily},
		{"family F - 0 *1\nctor c Nat\n", impl.CodeCtor},
		{"family F - 0 *1\nctor a F\nctor b F\nctor c Nat\n", impl.CodeCtor},
		{"family F - 0 *1\nctor a F\nctor b [! x 0 [F F] F]\n", impl.CodePositive},
		{"family F - 0 *1\nctor a F\nctor b [! x 0 *1 F]\nctor c F\n", impl.CodeUniverse},
		{"family F - 0 *1\nctor a F\nctor a F\n", impl.CodeInput},
		{"family F - 0 *1\nctor F F\n", impl.CodeInput},
		{"family F - 51 *1\n", impl.CodeInput},
		{"family F - 999 *1\n", impl.CodeInput},
		{"quot\n", impl.CodeQuot},
	} {
		holdImport(t, summed(natText+c.text), 100, 4, c.code)
		holdImport(t, summed(natText+"axiom first - Nat\n"+c.text+"axiom last - Nat\n"), 100, 5, c.code)
		// families with constructors in front of it
		more := "family A - 0 *1\nfamily B - 0 *1\nctor B.a B\nctor B.b B\nctor B.c [! b 0 B B]\naxiom first - Nat\nfamily C - 0 *0\nctor C.c C\n"
		holdImport(t, summed(natText+more+c.text), 100, 12, c.code)
		// the first that is refused is told
		holdImport(t, summed(natText+c.text+"axiom a - nothing\nquot\n"), 100, 4, c.code)
		holdImport(t, summed(natText+"theorem t - Nat Nat.zero\n"+c.text), 100, 4, impl.CodeProp)
	}
	holdImport(t, summed("quot\n"+eqText), 100, 1, impl.CodeQuot)
	holdImport(t, summed(eqText+"quot\nquot\n"), 100, 4, impl.CodeName)
	holdImport(t, summed(eqText+"axiom Quot.mk - *1\nquot\n"), 100, 4, impl.CodeName)
	holdImport(t, summed("axiom a - Nat\n"+natText), 100, 1, impl.CodeConst)
}

// Each declaration has the whole fuel: just as much as the one with the most work
// needs is enough.
func TestImportWithLittleFuel(t *testing.T) {
	text := natText + eqText +
		"def one - Nat [Nat.succ Nat.zero]\n" + // 1 for the argument, 1 for the whole
		"def two - Nat [Nat.succ one]\n" +
		"axiom all - [! n 0 Nat [[[Eq{1} Nat] #0] #0]]\n" + // 3 arguments
		"theorem easy - [[[Eq{1} Nat] two] [Nat.succ one]] [all two]\n" + // 4, 1, and the comparison of both
		"axiom last - Nat\n"
	for _, c := range []struct{ fuel, line, code int }{
		{impl.MaxFuel, 0, 0}, {100, 0, 0}, {0, 4, impl.CodeFuel}, {1, 4, impl.CodeFuel}, {2, 4, impl.CodeFuel}, {3, 9, impl.CodeFuel},
	} {
		holdImport(t, summed(text), c.fuel, c.line, c.code)
	}
	e, _, _ := impl.Import([]byte(summed(text)), 100)
	most := 0
	for i, d := range e.Decls {
		_, work, code := impl.Add(envOf(e.Decls[:i]...), d, impl.MaxFuel)
		if code != 0 {
			t.Fatalf("%s: code %d", d.Name, code)
		}
		most = max(most, work)
	}
	holdImport(t, summed(text), most, 0, 0)
	holdImport(t, summed(text), most-1, 9, impl.CodeFuel)
	holdImport(t, summed(text+"axiom one - Nat\n"), most, 11, impl.CodeName)
	holdImport(t, summed(text+"axiom one - Nat\n"), most-1, 9, impl.CodeFuel)
	holdImport(t, summed(text+"axiom one -\n"), most-1, 11, impl.CodeText)
}
