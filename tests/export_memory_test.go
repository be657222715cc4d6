package tests

import (
	"bytes"
	"runtime"
	"slices"
	"strings"
	"sync"
	"testing"
	"time"

	"loop.example/g00005/impl"
)

// richEnv has terms and levels in all parts of its declarations.
func richEnv() impl.Env {
	decls := withoutQuotients().Decls
	for i, d := range richDecls() {
		d.Name += strings.Repeat("'", i)
		for k := range d.Ctors {
			d.Ctors[k].Type = read(strings.ReplaceAll(written(d.Ctors[k].Type), "F{", d.Name+"{"))
		}
		decls = append(decls, d)
	}
	return envOf(append(decls, quotients())...)
}

func TestExportAnswersAreNewMemory(t *testing.T) {
	for _, e := range []impl.Env{{}, envOf(exportDecls()...), richEnv()} {
		first, ok := impl.Export(e)
		second, _ := impl.Export(e)
		if !ok || !bytes.Equal(first, second) {
			t.Fatalf("%q and %q", short(string(first)), short(string(second)))
		}
		back, _, code := impl.Import(first, impl.MaxFuel)
		again, _, _ := impl.Import(first, impl.MaxFuel)
		if code != 0 {
			t.Fatalf("code %d", code)
		}
		kept = append(kept, e, first, second, back, again)
		spans := envSpans(envSpans(envSpans(nil, e), back), again)
		holdApart(t, "environments", addSpan(addSpan(spans, first), second))
	}
	// the same memory at two places of what is given
	shared := read("[! x 0 *max(u,1) #0]")
	d := impl.Decl{Kind: impl.KindAxiom, Name: "new", Params: []string{"u"}, Type: shared}
	other := d
	other.Name = "newer"
	holdExport(t, "shared", envOf(d, other), summed("axiom new u [! x 0 *max(u,1) #0]\naxiom newer u [! x 0 *max(u,1) #0]\n"))
}

// What was read stays when the text is written over, and the other way round.
func TestExportAnswersStandAlone(t *testing.T) {
	e := richEnv()
	text, _ := impl.Export(e)
	want := slowExport(richEnv())
	got, _, code := impl.Import(text, impl.MaxFuel)
	if code != 0 || string(text) != want {
		t.Fatalf("code %d", code)
	}
	text = text[:cap(text)]
	for i := range text {
		text[i] = '#'
	}
	if !equalEnvs(got, richEnv()) || !equalEnvs(e, richEnv()) {
		t.Fatalf("an environment shares memory with its text")
	}
	out, _ := impl.Export(got)
	spoilEnv(got)
	if string(out) != want {
		t.Errorf("a text shares memory with its environment")
	}
	back, _, _ := impl.Import(out, impl.MaxFuel)
	if !equalEnvs(back, richEnv()) || string(out) != want {
		t.Errorf("two environments share memory")
	}
	spoilEnv(back)
	if again, _, _ := impl.Import(out, impl.MaxFuel); !equalEnvs(again, richEnv()) {
		t.Errorf("something was kept")
	}
}

// Nothing is written into an argument, nor behind it.
func TestExportArgumentsStay(t *testing.T) {
	front := richEnv()
	room := make([]impl.Decl, len(front.Decls), len(front.Decls)+3)
	copy(room, copyEnv(front).Decls)
	for i := range room {
		d := &room[i]
		d.Params = append(make([]string, 0, 9), d.Params...)
		d.Ctors = append(make([]impl.Ctor, 0, 30), d.Ctors...)
		d.Type, d.Value = withRoom(d.Type), withRoom(d.Value)
		for k := range d.Ctors {
			d.Ctors[k].Type = withRoom(d.Ctors[k].Type)
		}
	}
	impl.Export(impl.Env{Decls: room})
	if !equalEnvs(impl.Env{Decls: room}, front) || room[:len(room)+1][len(room)].Kind != 0 {
		t.Errorf("the environment was changed")
	}
	for _, d := range room {
		if d.Params[:9][len(d.Params)] != "" || d.Ctors[:30][len(d.Ctors)].Name != "" || behindNodes(d.Type) != 0 || behindNodes(d.Value) != 0 {
			t.Errorf("%s: something was put behind an argument", d.Name)
		}
	}
	whole := slowExport(front)
	for _, text := range []string{
		"", "\n", "sum 0\n", whole, summed(natText), natText, summed(natText + "what\n"), summed(natText + "axiom Nat - Nat\n"), summed(natText + "def a - Nat   [Nat.succ  Nat.zero]  \n"),
		whole[:100], "x" + whole, strings.Repeat("\n", impl.MaxText+1), "sum 1\n", "sum 0",
	} {
		given := append([]byte(text), "behind\n"...)[:len(text)]
		impl.Import(given, impl.MaxFuel)
		impl.SumOf(given)
		if string(given[:len(text)+7]) != text+"behind\n" {
			t.Errorf("%q was changed", short(text))
		}
	}
}

// Of a text that stands in a longer one only its own bytes are read.
func TestImportOfAPiece(t *testing.T) {
	whole := []byte(summed(natText))
	for from := range whole {
		for _, to := range []int{from, from + 1, from + 20, len(whole) - 1, len(whole)} {
			if to < from || to > len(whole) {
				continue
			}
			_, line, code := impl.Import(whole[from:to], 10)
			_, otherLine, otherCode := slowImport(string(whole[from:to]), 10)
			if line != otherLine || code != otherCode {
				t.Errorf("%q: code %d at line %d", whole[from:to], code, line)
			}
			if impl.SumOf(whole[from:to]) != slowSum(string(whole[from:to])) {
				t.Errorf("%q: another sum", whole[from:to])
			}
		}
	}
}

// Nothing goes on when a call has answered.
func TestExportEnds(t *testing.T) {
	before := runtime.NumGoroutine()
	e := envOf(manyAxioms(impl.MaxDecls)...)
	wrong := behind(e, newAxiom("*1"))
	text := slowExport(e)
	for range 20 {
		impl.Export(e)
		impl.Export(wrong)
		impl.Export(richEnv())
		impl.Import([]byte(text), 10)
		impl.Import([]byte(text+"\n"), 10)
		impl.Import([]byte(summed(text)), 10)
		impl.Import([]byte(summed("axiom a - "+strings.Repeat("] ", 5000)+"\n")), 10)
	}
	for range 1000 {
		if runtime.NumGoroutine() <= before {
			return
		}
		time.Sleep(5 * time.Millisecond)
	}
	t.Errorf("%d goroutines more than before", runtime.NumGoroutine()-before)
}

// Nothing is kept from call to call, and several may ask at the same time.
func TestExportAskedBySeveral(t *testing.T) {
	e := envOf(exportDecls()...)
	text := slowExport(e)
	other := summed(strings.ReplaceAll(natText, "Nat", "Num"))
	var wait sync.WaitGroup
	for range 6 {
		wait.Go(func() {
			for range 10 {
				holdExport(t, "several", e, text)
				holdImported(t, text, 1000, e)
				holdImport(t, other, 1000, 0, 0)
				holdImport(t, summed(natText+"axiom Num - Nat\nwhat\n"), 1000, 5, impl.CodeText)
				holdNoExport(t, "several", envOf(slices.Concat(e.Decls, e.Decls)...))
			}
		})
	}
	wait.Wait()
}
