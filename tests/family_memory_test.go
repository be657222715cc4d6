package tests

import (
	"math/rand"
	"slices"
	"strings"
	"testing"

	"loop.example/g00005/impl"
)

func declSpans(spans []span, d impl.Decl) []span {
	spans = addSpan(addSpan(spans, d.Params), d.Ctors)
	spans = termSpans(spans, d.Type, d.Value)
	for _, c := range d.Ctors {
		spans = termSpans(spans, c.Type)
	}
	return spans
}

func fieldSpans(spans []span, fields []impl.Field) []span {
	spans = addSpan(spans, fields)
	for _, f := range fields {
		spans = termSpans(spans, f.Type)
	}
	return spans
}

func TestFamilyAnswersAreNewMemory(t *testing.T) {
	r := rand.New(rand.NewSource(53))
	list := formedFamilies()
	for range 100 {
		list = append(list, randomFamily(r))
	}
	// Params with room behind them: a name put there would be a write into an
	// argument.
	roomy := vecFamily()
	roomy.Params = append(make([]string, 0, 8), "u")
	for _, d := range append(list, roomy) {
		kept = append(kept, d)
		spans := declSpans(nil, d)
		for range 2 {
			typ, _ := impl.RecursorType(d)
			names := impl.RecursorParams(d)
			kept = append(kept, typ, names)
			spans = addSpan(termSpans(spans, typ), names)
			for i := range d.Ctors {
				fields, _ := impl.FieldsOf(d, i)
				kept = append(kept, fields)
				spans = fieldSpans(spans, fields)
			}
		}
		holdApart(t, d.Name+" : "+written(d.Type), spans)
	}
	if room := roomy.Params[:8]; !slices.Equal(room, append([]string{"u"}, make([]string, 7)...)) {
		t.Errorf("a name was put behind the params: %v", room)
	}
}

func TestFamilyAnswersStandAlone(t *testing.T) {
	for _, make := range []func() impl.Decl{listFamily, vecFamily, accFamily, prodFamily} {
		d := make()
		first, _ := impl.RecursorType(d)
		names := impl.RecursorParams(d)
		for i := range d.Ctors {
			fields, _ := impl.FieldsOf(d, i)
			for k := range fields {
				spoilTerm(fields[k].Type)
				fields[k] = impl.Field{}
			}
		}
		spoilTerm(first)
		for i := range names {
			names[i] = "spoilt"
		}
		if !equalDecls(d, make()) {
			t.Errorf("%s: an answer shares memory with the declaration", d.Name)
		}
		holdFormed(t, d.Name, d)
	}
}

// askFamily asks everything of a declaration.
func askFamily(d impl.Decl) {
	impl.DeclOk(d)
	impl.FamilyForm(d)
	for ctor := -1; ctor <= min(len(d.Ctors), 3); ctor++ {
		impl.FieldsOf(d, ctor)
	}
	impl.IndicesOf(d)
	impl.IsProp(d)
	impl.IsStructure(d)
	impl.RecursorParams(d)
	impl.RecursorType(d)
}

func TestFamilyArgumentsStay(t *testing.T) {
	r := rand.New(rand.NewSource(54))
	list := append(formedFamilies(), oneOfEach()...)
	for range 300 {
		list = append(list, spoiltDecl(r, randomFamily(r)))
	}
	for _, d := range list {
		before := copyDecl(d)
		askFamily(d)
		if !equalDecls(d, before) {
			t.Errorf("%s : the declaration was changed", d.Name)
		}
	}
}

// anyDecl has fields of any kind, and some of the wrong terms.
func anyDecl(r *rand.Rand, wrong []impl.Term) impl.Decl {
	d := randomFamily(r)
	names := []string{"", "F", "F.rec", "Quot", "a.b", ".", "max", "v", "\xff", strings.Repeat("a", 37)}
	term := func() impl.Term {
		switch r.Intn(3) {
		case 0:
			return randomTerm(r, 12, 0)
		case 1:
			return wrong[r.Intn(len(wrong))]
		}
		return d.Type
	}
	for range 1 + r.Intn(3) {
		switch r.Intn(7) {
		case 0:
			d.Kind = r.Intn(8) - 1
		case 1:
			d.Name = names[r.Intn(len(names))]
		case 2:
			d.Params = append(d.Params, names[r.Intn(len(names))])
		case 3:
			d.Type = term()
		case 4:
			d.Value = term()
		case 5:
			d.Fixed = []int{-1 << 63, -1, 0, 1, 2, 3, 50, 51, 1<<63 - 1}[r.Intn(9)]
		case 6:
			d.Ctors = append(d.Ctors, impl.Ctor{Name: names[r.Intn(len(names))], Type: term()})
		}
	}
	return d
}

func TestFamilyFunctionsOfAnyDecl(t *testing.T) {
	t.Parallel()
	r := rand.New(rand.NewSource(55))
	wrong := wrongTerms()
	for range 2000 {
		d := anyDecl(r, wrong)
		askFamily(d)
		code, _ := impl.FamilyForm(d)
		if (code == impl.CodeInput) == (impl.DeclOk(d) && d.Kind == impl.KindFamily) {
			t.Errorf("a shaped family has code %d, or another one has not", code)
		}
		if code != 0 {
			holdUnformed(t, d.Name, d)
		} else {
			holdFormed(t, d.Name, d)
		}
	}
}
