package tests

import (
	"bytes"
	"math/rand"
	"slices"
	"strings"
	"sync"
	"testing"

	"loop.example/g00005/impl"
)

// richSource has every form, types that are repeated, and levels.
const richSource = `
axiom a.{u,v} (x y : f.{u,max(u,v)} Sort imax(u,v)) {z : Type u} : a.b -> Prop -- one
def f.{u} (x y : Type u) [z : x = y] : forall (w : f.{u} x), x := fun (a b : g.{1,u + 1}) c => let q := (x : y); @f.{u} x.1 * 3 + _
def g 2 : Nat -> Nat | 2, Nat.succ (Nat.succ n) => n | _, m => let x : N := m; x
theorem t.{u} (x y : Sort u) : x \/ y /\ x by intro x; exact f.{u} x; apply x; rewrite <- h; rewrite h; induction x; cases y; assumption; refl; constructor; have k : Type u := x
theorem s {x : Sort w} : p := q
family L.{u} 1 : Type u -> Type u | L.nil : forall {A : Type u}, L A | L.cons : L.{u} A
class C.{u} 1 : Type u | C.mk : C A
instance i (x y : Sort u) : C N := x
quotient eval f.{0} x check Type
`

func treeSpans(spans []span, trees ...impl.Tree) []span {
	for _, tree := range trees {
		spans = addSpan(spans, tree.Forms)
		for _, f := range tree.Forms {
			spans = addSpan(spans, f.Names)
			spans = addSpan(spans, f.Kids)
			spans = levelSpans(spans, f.Levels)
		}
	}
	return spans
}

func richTree(t *testing.T) impl.Tree {
	t.Helper()
	tree, code, at := parseFile(richSource)
	if code != 0 {
		t.Fatalf("code %d at %d", code, at)
	}
	kinds := map[int]bool{}
	for _, f := range tree.Forms {
		kinds[f.K] = true
	}
	if len(kinds) != impl.FormFile {
		t.Fatalf("only %d kinds of forms", len(kinds))
	}
	return tree
}

func TestSurfaceAnswersAreNewMemory(t *testing.T) {
	source := []byte(richSource)
	first, second := richTree(t), richTree(t)
	one, _, _ := impl.Tokens(source)
	two, _, _ := impl.Tokens(source)
	text, ok := impl.Print(first)
	again, _ := impl.Print(first)
	if !ok || !bytes.Equal(text, again) || !slices.Equal(one, two) || !equalTrees(first, second, true) {
		t.Fatal("two answers are not the same")
	}
	form, code, _ := parseForm("fun (x y z : f.{u,max(u,v)} Type Sort u) => @g.{u} Sort v")
	other, _, _ := parseForm("fun (x y z : f.{u,max(u,v)} Type Sort u) => @g.{u} Sort v")
	if code != 0 {
		t.Fatalf("code %d", code)
	}
	kept = append(kept, source, first, second, one, two, text, again, form, other)
	spans := treeSpans(nil, first, second, form, other)
	spans = addSpan(addSpan(addSpan(addSpan(addSpan(spans, one), two), text), again), source)
	holdApart(t, "a file", spans)
}

// spoilTree writes over all that a tree has, with the room that is left.
func spoilTree(tree impl.Tree) {
	for _, f := range tree.Forms[:cap(tree.Forms)] {
		for i := range f.Names[:cap(f.Names)] {
			f.Names[:cap(f.Names)][i] = "spoilt"
		}
		for i := range f.Kids[:cap(f.Kids)] {
			f.Kids[:cap(f.Kids)][i] = -7
		}
		for _, l := range f.Levels[:cap(f.Levels)] {
			for i := range l.Nodes[:cap(l.Nodes)] {
				for k := range l.Nodes[i].Kids {
					l.Nodes[i].Kids[k] = -7
				}
				l.Nodes[:cap(l.Nodes)][i] = impl.LNode{K: -7}
			}
		}
	}
	for i := range tree.Forms {
		tree.Forms[i] = impl.Form{K: -7}
	}
}

func TestSurfaceAnswersStandAlone(t *testing.T) {
	source := []byte(richSource)
	tree, _, _ := impl.ParseFile(source)
	tokens, _, _ := impl.Tokens(source)
	for i := range source {
		source[i] = '#'
	}
	want := richTree(t)
	wantTokens, _, _ := impl.Tokens([]byte(richSource))
	if !equalTrees(tree, want, true) || !slices.Equal(tokens, wantTokens) {
		t.Errorf("an answer shares memory with its text")
	}
	text, _ := impl.Print(tree)
	wantText, _ := impl.Print(want)
	spoilTree(tree)
	if !bytes.Equal(text, wantText) || !equalTrees(want, richTree(t), true) {
		t.Errorf("a text shares memory with its tree, or two trees share some")
	}
	for i := range text[:cap(text)] {
		text[:cap(text)][i] = '#'
	}
	for i := range tokens {
		tokens[i] = impl.Token{}
	}
	if again, _ := impl.Print(want); !bytes.Equal(again, wantText) || !equalTrees(want, richTree(t), true) {
		t.Errorf("two texts share memory")
	}
}

func TestSurfaceArgumentsStay(t *testing.T) {
	r := rand.New(rand.NewSource(147))
	trees := []impl.Tree{richTree(t), {}, surfKind(99).tree(), surfName("fun").tree(), {Forms: []impl.Form{{K: impl.FormApp, Kids: []int{5, -1}}}}}
	for range 300 {
		trees = append(trees, randomSurf(r, 3).tree(), changeTree(r, randomSurf(r, 3).tree()))
	}
	for i, tree := range trees {
		old, before := copyTree(tree), copyTree(trees[0])
		impl.TreeOk(tree)
		impl.Print(tree)
		impl.SameTree(tree, trees[0])
		impl.SameTree(trees[0], tree)
		if !equalTrees(tree, old, true) || !equalTrees(trees[0], before, true) {
			t.Fatalf("tree %d was changed", i)
		}
	}
	for _, text := range []string{"", " ", "x", "fun x =>", richSource, "(", "?", "1000", "def f : A | 3 => x", strings.Repeat("(", 1000), strings.Repeat(" ", impl.MaxSource+1)} {
		given := append([]byte(text), "behind"...)[:len(text)]
		impl.Tokens(given)
		impl.ParseFile(given)
		impl.ParseForm(given)
		if string(given) != text || string(given[:len(text)+6]) != text+"behind" {
			t.Fatalf("%.40q was changed", text)
		}
	}
}

// Of a text that stands in a longer one only its own bytes are read.
func TestSurfaceOfAPiece(t *testing.T) {
	whole := []byte("a.b.{u} -- x\n=> 12 := x'/\\y")
	for from := range whole {
		for to := from; to <= len(whole); to++ {
			holdTokens(t, string(whole[from:to]))
			tokens, code, at := impl.Tokens(whole[from:to])
			other, otherCode, otherAt := impl.Tokens([]byte(string(whole[from:to])))
			if code != otherCode || at != otherAt || !slices.Equal(tokens, other) {
				t.Errorf("%q: code %d at %d", whole[from:to], code, at)
			}
		}
	}
}

func TestSurfaceAtTheSameTime(t *testing.T) {
	want := richTree(t)
	wantText, _ := impl.Print(want)
	var all sync.WaitGroup
	for range 8 {
		all.Add(1)
		go func() {
			defer all.Done()
			for range 60 {
				tree, code, at := impl.ParseFile([]byte(richSource))
				text, ok := impl.Print(want)
				_, wrong, wrongAt := impl.ParseFile([]byte(richSource + ")"))
				if code != 0 || at != 0 || !impl.SameTree(tree, want) || !ok || !bytes.Equal(text, wantText) || wrong != impl.CodeText || wrongAt != len(richSource) {
					t.Errorf("code %d at %d, %d at %d", code, at, wrong, wrongAt)
					return
				}
			}
		}()
	}
	all.Wait()
}

// Promise 15 for a file with every form in it.
func TestPrintRichFile(t *testing.T) {
	tree := richTree(t)
	holdReadAgain(t, tree)
	text, _ := impl.Print(tree)
	if string(text) != slowPrint(surfOf(tree)) || bytes.Count(text, []byte("\n")) != 11 {
		t.Errorf("%s", text)
	}
}
