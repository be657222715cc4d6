package tests

import (
	"bytes"
	"math/rand"
	"runtime"
	"strings"
	"sync"
	"testing"
	"time"

	"loop.example/g00005/impl"
)

func TestTextAnswersAreNewMemory(t *testing.T) {
	for _, x := range []impl.Term{richTerm(), variable(0), universe(param("u")), constant("c", param("u"), param("u")), app(richTerm(), richTerm())} {
		text, ok := impl.TermText(x)
		again, _ := impl.TermText(x)
		if !ok || !bytes.Equal(text, again) {
			t.Fatalf("%q and %q", text, again)
		}
		first, code, _ := impl.ParseTerm(text)
		second, _, _ := impl.ParseTerm(text)
		if code != 0 || !equalTerms(first, second) {
			t.Fatalf("%q: code %d", text, code)
		}
		kept = append(kept, x, text, again, first, second)
		holdApart(t, string(text), addSpan(addSpan(termSpans(nil, x, first, second), text), again))
	}
}

// What was read stays when the text is written over, and the other way round.
func TestTextAnswersStandAlone(t *testing.T) {
	x := richTerm()
	text := []byte(written(x))
	got, _, _ := impl.ParseTerm(text)
	for i := range text {
		text[i] = '#'
	}
	if !equalTerms(got, x) {
		t.Errorf("a term shares memory with its text")
	}
	out, _ := impl.TermText(got)
	spoilTerm(got)
	if string(out) != written(x) {
		t.Errorf("a text shares memory with its term")
	}
	out = out[:cap(out)]
	for i := range out {
		out[i] = '#'
	}
	again, _ := impl.TermText(x)
	if string(again) != written(x) || !equalTerms(x, richTerm()) {
		t.Errorf("two texts share memory")
	}
}

func TestTextArgumentsStay(t *testing.T) {
	r := rand.New(rand.NewSource(56))
	terms := append(wrongTerms(), richTerm())
	for range 300 {
		terms = append(terms, randomTerm(r, 1+r.Intn(12), 0))
	}
	for _, x := range terms {
		old := copyTerm(x)
		impl.TermText(x)
		if !equalTerms(x, old) {
			t.Fatalf("%v was changed", old)
		}
	}
	for _, text := range []string{"", " ", "#0", "[#0 #1", "[ ^ x 01\n*u+0 f{u,max(u,v)} ] ", "]", "#0 #0", "f{u,,v}", strings.Repeat("[", 1000), strings.Repeat(" ", impl.MaxText+1)} {
		// Room behind the text is not the program's, either.
		given := append([]byte(text), "behind"...)[:len(text)]
		impl.ParseTerm(given)
		if string(given) != text || string(given[:len(text)+6]) != text+"behind" {
			t.Fatalf("%q was changed", short(text))
		}
	}
}

// Of a text that stands in a longer one only its own bytes are read.
func TestParseTermOfAPiece(t *testing.T) {
	whole := []byte("[#0 #12] #3")
	for from := range whole {
		for to := from; to <= len(whole); to++ {
			holdAsSlow(t, string(whole[from:to]))
			x, code, at := impl.ParseTerm(whole[from:to])
			y, otherCode, otherAt := impl.ParseTerm([]byte(string(whole[from:to])))
			if code != otherCode || at != otherAt || !equalTerms(x, y) {
				t.Errorf("%q: code %d at %d", whole[from:to], code, at)
			}
		}
	}
}

// Nothing goes on when the call has answered, also where a mistake stands far
// in front of the end.
func TestParseTermEnds(t *testing.T) {
	before := runtime.NumGoroutine()
	for range 50 {
		for _, text := range []string{"", "#0", "]" + strings.Repeat("#0 ", 5000), strings.Repeat("[", 5000), "#0 " + strings.Repeat("] ", 5000), spreadText(3000, "c"), strings.Repeat(" ", impl.MaxText+1)} {
			impl.ParseTerm([]byte(text))
		}
	}
	for range 1000 {
		if runtime.NumGoroutine() <= before {
			return
		}
		time.Sleep(5 * time.Millisecond)
	}
	t.Errorf("%d goroutines more than before", runtime.NumGoroutine()-before)
}

func TestTextsAtTheSameTime(t *testing.T) {
	x := app(richTerm(), richTerm())
	text := []byte(written(x))
	wrong := append([]byte(written(x)), " ]"...)
	var all sync.WaitGroup
	for range 8 {
		all.Add(1)
		go func() {
			defer all.Done()
			for range 200 {
				got, code, at := impl.ParseTerm(text)
				out, ok := impl.TermText(x)
				_, wrongCode, wrongAt := impl.ParseTerm(wrong)
				if code != 0 || at != 0 || !equalTerms(got, x) || !ok || !bytes.Equal(out, text) || wrongCode != impl.CodeText || wrongAt != len(text)+1 {
					t.Errorf("code %d at %d, %d at %d", code, at, wrongCode, wrongAt)
					return
				}
			}
		}()
	}
	all.Wait()
}
