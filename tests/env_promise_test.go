package tests

import (
	"math/rand"
	"slices"
	"strconv"
	"testing"

	"loop.example/g00005/impl"
)

// answers is all that is said of one constant.
type answers struct {
	info   impl.Info
	typ    impl.Term
	code   int
	height int
	axioms []string
}

func answersOf(e impl.Env, name string, levels []impl.Level) answers {
	var a answers
	a.info, _ = impl.Find(e, name)
	a.typ, a.code = impl.ConstType(e, name, levels)
	a.height = impl.Height(e, name)
	a.axioms, _ = impl.AxiomsOf(e, name)
	return a
}

// sameButAxioms leaves out what a constant hangs on.
func sameButAxioms(a, b answers) bool {
	return equalInfos(a.info, b.info) && equalTerms(a.typ, b.typ) && a.code == b.code && a.height == b.height
}

func sameAnswers(a, b answers) bool {
	return sameButAxioms(a, b) && slices.Equal(a.axioms, b.axioms)
}

func (m *envMaker) levelsFor(name string) []impl.Level {
	var levels []impl.Level
	for range m.table[name].Params {
		levels = append(levels, randomLevel(m.r, 3, []string{"u", "w"}))
	}
	return levels
}

// Promise 6, as far as environments go: each front part of a valid environment
// is valid, and what comes behind it changes nothing of what it said.
func TestFrontPartsStay(t *testing.T) {
	t.Parallel()
	r := rand.New(rand.NewSource(63))
	for i := range 60 {
		m := randomEnv(r)
		what := "environment " + strconv.Itoa(i)
		for cut := range m.e.Decls {
			front := envOf(m.e.Decls[:cut]...)
			if !impl.EnvOk(front) {
				t.Errorf("%s: not valid up to %d", what, cut)
			}
			for _, name := range allNames(front) {
				levels := m.levelsFor(name)
				if !sameAnswers(answersOf(front, name, levels), answersOf(m.e, name, levels)) {
					t.Errorf("%s: %s is another one behind %d", what, name, cut)
				}
			}
			for range 5 {
				x := m.term(3, 1, []string{"u"})
				if impl.Known(front, x, 1) && !impl.Known(m.e, x, 1) {
					t.Errorf("%s: %s is not known any more", what, written(x))
				}
			}
		}
	}
}

// What is refused leaves nothing: the environment that it was put behind says
// the same as before.
func TestRefusedLeavesNothing(t *testing.T) {
	r := rand.New(rand.NewSource(64))
	refused := 0
	for i := range 200 {
		m := randomEnv(r)
		room := make([]impl.Decl, len(m.e.Decls), len(m.e.Decls)+4)
		copy(room, m.e.Decls)
		front := impl.Env{Decls: room}
		before := copyEnv(front)
		name := m.names[r.Intn(len(m.names))]
		levels := m.levelsFor(name)
		said := answersOf(front, name, levels)
		d := m.decl()
		m.spoiltDecl(&d)
		whole := impl.Env{Decls: append(front.Decls, d)}
		if impl.EnvOk(whole) {
			continue
		}
		refused++
		if code := answersOf(whole, name, levels).code; code != impl.CodeInput {
			t.Errorf("environment %d: code %d", i, code)
		}
		if !equalEnvs(front, before) || !impl.EnvOk(front) || !sameAnswers(said, answersOf(front, name, levels)) {
			t.Errorf("environment %d: the front is another one", i)
		}
	}
	if refused < 50 {
		t.Errorf("only %d were refused", refused)
	}
}

// asAxiom is a theorem without its proof.
func asAxiom(d impl.Decl) impl.Decl {
	d = copyDecl(d)
	d.Kind, d.Value = impl.KindAxiom, impl.Term{}
	return d
}

// Promise 13, as far as environments go: with an axiom for a theorem, or with
// another proof of it, nothing is other but what hangs on axioms.
func TestTheoremsAsAxioms(t *testing.T) {
	t.Parallel()
	r := rand.New(rand.NewSource(65))
	seen := 0
	for i := range 80 {
		m := randomEnv(r)
		for at, d := range m.e.Decls {
			if d.Kind != impl.KindTheorem {
				continue
			}
			seen++
			other := copyDecl(d)
			other.Value = prop()
			for _, put := range []impl.Decl{asAxiom(d), other} {
				e := copyEnv(m.e)
				e.Decls[at] = put
				m.holdAlike(t, "environment "+strconv.Itoa(i), e, d.Name)
			}
		}
	}
	if seen < 50 {
		t.Errorf("only %d theorems", seen)
	}
}

// holdAlike holds another environment against the maker's; the one constant may
// be of another kind there.
func (m *envMaker) holdAlike(t *testing.T, what string, e impl.Env, but string) {
	t.Helper()
	if !impl.EnvOk(e) {
		t.Errorf("%s: not valid with another %s", what, but)
		return
	}
	for _, name := range m.names {
		levels := m.levelsFor(name)
		a, b := answersOf(m.e, name, levels), answersOf(e, name, levels)
		if name == but {
			a.info.Kind = b.info.Kind
		}
		if !sameButAxioms(a, b) {
			t.Errorf("%s: %s is another one with another %s", what, name, but)
		}
	}
	for range 5 {
		x := m.spoiltTerm(m.term(3, 1, nil))
		if impl.Known(m.e, x, 1) != impl.Known(e, x, 1) {
			t.Errorf("%s: %s is known in one of them", what, written(x))
		}
	}
}

// unfolded has the Value for each definition.
func (m *envMaker) unfolded(x impl.Term) impl.Term {
	return treeOf(x).changed(0, func(x tree, _ int) tree {
		info := m.table[x.node.S]
		if x.node.K != impl.TermConst || info.Kind != impl.InfoDef {
			return x
		}
		value, code := impl.PutParams(m.e.Decls[info.Decl].Value, info.Params, x.node.Levels)
		if code != 0 {
			panic("a level is too great")
		}
		return treeOf(value)
	}).term()
}

// Promise 13, the other half: what is known stays so with Values for
// definitions, and a definition over them is one less high.
func TestValuesForDefinitions(t *testing.T) {
	r := rand.New(rand.NewSource(66))
	lower := 0
	for i := range 150 {
		m := randomEnv(r)
		what := "environment " + strconv.Itoa(i)
		for range 5 {
			x := m.term(3, 1, []string{"u"})
			if y := m.unfolded(x); !impl.Known(m.e, y, 1) {
				t.Errorf("%s: %s is not known", what, written(y))
			}
		}
		for at, d := range m.e.Decls {
			if d.Kind != impl.KindDef {
				continue
			}
			height := impl.Height(m.e, d.Name)
			e := copyEnv(m.e)
			e.Decls[at].Value = m.unfolded(d.Value)
			if want := max(1, height-1); !impl.EnvOk(e) || impl.Height(e, d.Name) != want {
				t.Errorf("%s: %s has height %d with Values, and %d without", what, d.Name, impl.Height(e, d.Name), height)
			}
			if height > 1 {
				lower++
			}
		}
	}
	if lower < 30 {
		t.Errorf("only %d definitions over others", lower)
	}
}
