package tests

import (
	"math/rand"
	"slices"
	"strconv"
	"testing"

	"loop.example/g00005/impl"
)

// withAxioms has an axiom for each open hole, in an environment that has them
// all, and the number 1 for each open level hole: the kernel knows no holes.
type withAxioms struct {
	e impl.Env
	s impl.State
}

func axiomsFor(e impl.Env, s impl.State) *withAxioms {
	x := &withAxioms{e, s}
	for i, h := range s.Holes {
		if len(h.Value.Nodes) == 0 {
			x.e = behind(x.e, impl.Decl{Kind: impl.KindAxiom, Name: "open" + strconv.Itoa(i), Type: x.of(h.Type)})
		}
	}
	return x
}

// of fills a term and has its holes be the axioms.
func (x *withAxioms) of(t impl.Term) impl.Term {
	t, _ = impl.Fill(x.s, t)
	for _, hole := range impl.HolesOf(t) {
		t, _ = impl.PutHole(t, hole, constant("open"+strconv.Itoa(hole)))
	}
	var names []string
	var levels []impl.Level
	for i := range x.s.Levels {
		names, levels = append(names, "_"+strconv.Itoa(i)), append(levels, succ(zero(), 1))
	}
	t, _ = impl.PutParams(t, names, levels)
	return t
}

// holdMadeSame fails unless two terms are the same once they are filled.
func holdMadeSame(t *testing.T, e impl.Env, s impl.State, ctx []impl.Term, a, b impl.Term) {
	t.Helper()
	x := axiomsFor(e, s)
	var types []impl.Term
	for _, typ := range ctx {
		types = append(types, x.of(typ))
	}
	if same, _, code := impl.Conv(x.e, types, x.of(a), x.of(b), impl.MaxFuel); !same {
		t.Errorf("%s and %s are not the same, code %d, in\n%s", told(a), told(b), code, stateText(s))
	}
}

// holdKept fails unless what was known is as it was.
func holdKept(t *testing.T, before, after impl.State) {
	t.Helper()
	if len(before.Holes) != len(after.Holes) || len(before.Levels) != len(after.Levels) {
		t.Errorf("other holes: %s\n%s", stateText(before), stateText(after))
		return
	}
	for i, h := range before.Holes {
		g := after.Holes[i]
		if !equalTerms(h.Type, g.Type) || h.Class != g.Class || len(h.Value.Nodes) > 0 && !equalTerms(h.Value, g.Value) {
			t.Errorf("?%d was changed: %s\n%s", i, stateText(before), stateText(after))
		}
	}
	for i, level := range before.Levels {
		if len(level.Nodes) > 0 && !sameNodes(level, after.Levels[i]) {
			t.Errorf("_%d was changed: %s\n%s", i, stateText(before), stateText(after))
		}
	}
}

// Promise 16, with drawn terms: all that have a type are the same when nothing is
// put off.
func TestUnifyMakesTheSame(t *testing.T) {
	t.Parallel()
	r := rand.New(rand.NewSource(161))
	m := &unifyMaker{r}
	e := unifyEnv()
	done, known, settled := 0, 0, 0
	for range 2000 {
		s, uses := m.state()
		a, b := m.terms(uses)
		if r.Intn(2) == 0 {
			b = m.alike(treeOf(a), uses, 0).term()
		}
		ctx := unifyContext()
		after, _, code := impl.Unify(e, s, ctx, a, b, 5000)
		if code != 0 {
			continue
		}
		holdKept(t, s, after)
		if len(after.Later) > 0 {
			last, _, code := impl.Settle(e, after, 5000)
			if code != 0 || len(last.Later) > 0 {
				continue
			}
			holdKept(t, after, last)
			after = last
			settled++
		}
		done++
		if !slices.EqualFunc(s.Holes, after.Holes, func(x, y impl.Hole) bool { return equalTerms(x.Value, y.Value) }) {
			known++
		}
		holdMadeSame(t, e, after, ctx, a, b)
	}
	if done < 300 || known < 100 {
		t.Errorf("%d are the same, %d of them with new Values, %d later", done, known, settled)
	}
}
