package tests

import (
	"math/rand"
	"slices"
	"strconv"
	"sync"
	"testing"

	"loop.example/g00005/impl"
)

func envSpans(spans []span, e impl.Env) []span {
	spans = addSpan(spans, e.Decls)
	for _, d := range e.Decls {
		spans = declSpans(spans, d)
	}
	return spans
}

// askEnv asks everything of one name, and gives the stretches of all answers.
func askEnv(e impl.Env, name string, levels []impl.Level) []span {
	info, _ := impl.Find(e, name)
	typ, _ := impl.ConstType(e, name, levels)
	axioms, _ := impl.AxiomsOf(e, name)
	impl.Height(e, name)
	impl.Known(e, typ, 0)
	kept = append(kept, info, typ, axioms)
	spans := termSpans(nil, info.Type, typ)
	return addSpan(addSpan(spans, info.Params), axioms)
}

func TestEnvAnswersAreNewMemory(t *testing.T) {
	r := rand.New(rand.NewSource(67))
	list := []impl.Env{sampleEnv(), hanging()}
	for range 10 {
		list = append(list, randomEnv(r).e)
	}
	for i, e := range list {
		levels := levelsOf("max(u,w)", "imax(u,w)+1", "0")
		kept = append(kept, e, levels)
		spans := levelSpans(envSpans(nil, e), levels)
		for name, info := range slowTable(e) {
			for _, count := range []int{0, min(len(info.Params), len(levels))} {
				spans = append(spans, askEnv(e, name, levels[:count])...)
			}
			spans = append(spans, askEnv(e, name, nil)...)
		}
		for _, d := range e.Decls {
			first, second := impl.NamesOf(d), impl.NamesOf(d)
			kept = append(kept, first, second)
			spans = addSpan(addSpan(spans, first), second)
		}
		holdApart(t, "environment "+strconv.Itoa(i), spans)
	}
}

func TestEnvAnswersStandAlone(t *testing.T) {
	e := sampleEnv()
	for name, want := range slowTable(sampleEnv()) {
		info, _ := impl.Find(e, name)
		typ, _ := impl.ConstType(e, name, params(want.Params))
		axioms, _ := impl.AxiomsOf(e, name)
		spoilTerm(info.Type)
		spoilTerm(typ)
		for _, list := range [][]string{info.Params, axioms} {
			for i := range list[:cap(list)] {
				list[:cap(list)][i] = "spoilt"
			}
		}
	}
	for _, d := range e.Decls {
		names := impl.NamesOf(d)
		for i := range names {
			names[i] = "spoilt"
		}
	}
	if !equalEnvs(e, sampleEnv()) {
		t.Errorf("an answer shares memory with the environment")
	}
	holdEnv(t, "behind spoilt answers", e, true)
	holdConstants(t, "behind spoilt answers", e)
}

func TestEnvArgumentsStay(t *testing.T) {
	r := rand.New(rand.NewSource(68))
	for i := range 150 {
		m := randomEnv(r)
		for _, e := range []impl.Env{m.e, m.spoiltEnv()} {
			// Lists with room behind them: what is put there is a write, too.
			room := make([]impl.Decl, len(e.Decls), len(e.Decls)+3)
			copy(room, e.Decls)
			e.Decls = room
			for k := range e.Decls {
				e.Decls[k].Params = append(make([]string, 0, 9), e.Decls[k].Params...)
			}
			before := copyEnv(e)
			levels := levelsOf("u+1", "max(u,1)")
			for _, name := range append([]string{"", "nowhere"}, m.names...) {
				askEnv(e, name, levels[:r.Intn(3)])
			}
			for k, d := range e.Decls {
				impl.NamesOf(d)
				if left := d.Params[len(d.Params):9]; slices.ContainsFunc(left, func(s string) bool { return s != "" }) {
					t.Errorf("environment %d: a name was put behind the Params of %d", i, k)
				}
			}
			if !equalEnvs(e, before) || e.Decls[:cap(e.Decls)][len(e.Decls)].Kind != 0 {
				t.Errorf("environment %d was changed", i)
			}
			if written(universe(levels[0])) != "*u+1" || written(universe(levels[1])) != "*max(u,1)" {
				t.Errorf("environment %d: the levels were changed", i)
			}
		}
	}
}

// Environments of any declarations at all.
func TestEnvFunctionsOfAnyDecl(t *testing.T) {
	r := rand.New(rand.NewSource(69))
	wrong := wrongTerms()
	for i := range 600 {
		e := impl.Env{}
		if r.Intn(2) == 0 {
			e = randomEnv(r).e
		}
		for range r.Intn(3) {
			e = behind(e, anyDecl(r, wrong))
		}
		what := "environment " + strconv.Itoa(i)
		for _, d := range e.Decls {
			if names := impl.NamesOf(d); (len(names) == 0) == impl.DeclOk(d) {
				t.Errorf("%s: names %v", what, names)
			}
		}
		holdEnv(t, what, e, slowEnvOk(e))
		for _, name := range []string{"F", "F.rec", "Quot", "a.b", "\xff"} {
			askEnv(e, name, []impl.Level{{}})
			askEnv(e, name, nil)
		}
		holdKnown(t, what, e, wrong[i%len(wrong)], 0, false)
	}
}

// Several may ask of one environment at the same time.
func TestEnvAskedBySeveral(t *testing.T) {
	e := sampleEnv()
	table := slowTable(e)
	var wait sync.WaitGroup
	for range 4 {
		wait.Go(func() {
			for name, want := range table {
				if got, ok := impl.Find(e, name); !ok || !equalInfos(got, want) {
					t.Errorf("%s: %v, %v", name, got, ok)
				}
			}
		})
	}
	wait.Wait()
}
