package tests

import (
	"math/rand"
	"slices"
	"strings"
	"testing"

	"loop.example/g00005/impl"
)

// textSpoiler makes lines that are a little other than those of Export.
type textSpoiler struct {
	r     *rand.Rand
	lines []string
}

func (s *textSpoiler) oneOf(texts ...string) string {
	return texts[s.r.Intn(len(texts))]
}

// spoiltLine changes some bytes, words or tokens.
func (s *textSpoiler) spoiltLine(line string) string {
	place := s.r.Intn(len(line) + 1)
	switch s.r.Intn(8) {
	case 0:
		return line[:place] + s.oneOf(" ", "[", "]", "-", ",", "0", "u", "\x00", "\t", "\r", "\x80", "*", "\n", "#", "ctor ") + line[place:]
	case 1:
		end := min(len(line), place+1+s.r.Intn(3))
		return line[:place] + line[end:]
	case 2:
		end := min(len(line), place+1)
		return line[:place] + s.oneOf(" ", "[", "]", "-", ",", "0", "u", "\xff", "{", "}") + line[end:]
	}
	words := strings.Split(line, " ")
	i := s.r.Intn(len(words))
	switch s.r.Intn(5) {
	case 0:
		words[i] = s.oneOf("", "-", "u", "u,v", "u,,v", "0", "2", "00", "1000", "Nat", "*1", "[Nat", "]", "axiom", "def", "theorem", "family", "ctor", "quot", "sum")
	case 1:
		words = slices.Insert(words, i, s.oneOf("", "-", "u", "0", "Nat", "*0", "[", "]", " "))
	case 2:
		words = slices.Delete(words, i, i+1)
	case 3:
		k := s.r.Intn(len(words))
		words[i], words[k] = words[k], words[i]
	default:
		words[0] = s.oneOf("axiom", "def", "theorem", "family", "ctor", "quot", "sum", "what")
	}
	return strings.Join(words, " ")
}

// text has some of the lines, with a change in one of them, mostly.
func (s *textSpoiler) text() string {
	from := s.r.Intn(len(s.lines))
	lines := slices.Clone(s.lines[from:min(len(s.lines), from+1+s.r.Intn(6))])
	if s.r.Intn(3) > 0 {
		lines = append(strings.Split(strings.TrimSuffix(natText, "\n"), "\n"), lines...)
	}
	i, k := s.r.Intn(len(lines)), s.r.Intn(len(lines))
	switch s.r.Intn(10) {
	case 0:
		lines[i], lines[k] = lines[k], lines[i]
	case 1:
		lines = slices.Delete(lines, i, i+1)
	case 2:
		lines = slices.Insert(lines, k, lines[i])
	case 3:
	default:
		lines[i] = s.spoiltLine(lines[i])
	}
	text := ""
	for _, line := range lines {
		text += line + "\n"
	}
	return text
}

// spoiltText is a text whose sum is right, mostly.
func (s *textSpoiler) spoiltText() string {
	text := summed(s.text())
	switch s.r.Intn(12) {
	case 0:
		return s.spoiltLine(text)
	case 1:
		return text[:s.r.Intn(len(text))]
	case 2:
		return s.text()
	}
	return text
}

// exportLines are lines of many declarations.
func exportLines(t *testing.T, r *rand.Rand) []string {
	t.Helper()
	var lines []string
	for _, d := range slices.Concat(exportDecls()[1:], richDecls()) {
		lines = append(lines, slowLines(d)...)
	}
	for _, d := range takenEnv(t, r, 30).e.Decls {
		for _, line := range slowLines(d) {
			if len(line) < 200 {
				lines = append(lines, line)
			}
		}
	}
	return append(lines, "axiom a - Nat", "def b - Nat Nat.zero", "family F - 0 *1", "ctor c F", "theorem t - *0 *0", "axiom c u,v *max(u,v)")
}

func TestImportOfRandomTexts(t *testing.T) {
	t.Parallel()
	r := rand.New(rand.NewSource(125))
	s := &textSpoiler{r, exportLines(t, r)}
	counts := checkCounts{}
	for range 12000 {
		fuel := []int{0, 2, 1000, impl.MaxFuel, impl.MaxFuel, 1000, 1000, -1}[r.Intn(8)]
		counts[holdSlowImport(t, s.spoiltText(), fuel)]++
		if t.Failed() {
			return
		}
	}
	counts.holdMet(t, 1000, impl.CodeText)
	counts.holdMet(t, 100, 0, impl.CodeInput, impl.CodeSum, impl.CodeConst, impl.CodeName)
	counts.holdMet(t, 5, impl.CodeFuel, impl.CodeCtor)
}

// Promise 24: any bytes have an answer.
func TestImportOfAnyBytes(t *testing.T) {
	r := rand.New(rand.NewSource(126))
	letters := "axiomdefthrynlyctquoszu 01-,[]*#?!^=.{}\n\n"
	for range 20000 {
		text := make([]byte, r.Intn(60))
		for i := range text {
			text[i] = letters[r.Intn(len(letters))]
			if r.Intn(30) == 0 {
				text[i] = byte(r.Intn(256))
			}
		}
		holdSlowImport(t, string(text), r.Intn(100)-2)
		holdSlowImport(t, summed(string(text)), 10)
		holdSlowImport(t, summed(string(text)+"\n"), 10)
		if t.Failed() {
			return
		}
	}
}
