package tests

import (
	"math/rand"
	"slices"
	"strconv"
	"testing"

	"loop.example/g00005/impl"
)

// envMaker makes valid environments. Terms need no types there: any closed one
// whose constants are known may stand in them.
type envMaker struct {
	r     *rand.Rand
	e     impl.Env
	table map[string]impl.Info
	names []string
	count int
}

func (m *envMaker) add(d impl.Decl) {
	m.e.Decls = append(m.e.Decls, d)
	names, infos := slowInfos(d)
	for i, name := range names {
		infos[i].Decl = len(m.e.Decls) - 1
		m.table[name] = infos[i]
	}
	m.names = append(m.names, names...)
}

func (m *envMaker) fresh(begin string) string {
	m.count++
	return begin + strconv.Itoa(m.count)
}

func (m *envMaker) leaf(under int, params []string) impl.Term {
	if under > 0 && m.r.Intn(3) == 0 {
		return variable(m.r.Intn(under))
	}
	if len(m.names) == 0 || m.r.Intn(6) == 0 {
		return universe(randomLevel(m.r, 3, append([]string{}, params...)))
	}
	name := m.names[m.r.Intn(len(m.names))]
	var levels []impl.Level
	for range m.table[name].Params {
		levels = append(levels, randomLevel(m.r, 2, append([]string{}, params...)))
	}
	return constant(name, levels...)
}

// structure gives a projection that is known, where there is one.
func (m *envMaker) structure() (string, int, bool) {
	for _, d := range m.e.Decls {
		if fields, _ := impl.FieldsOf(d, 0); impl.IsStructure(d) && len(fields) > 0 && m.r.Intn(2) == 0 {
			return d.Name, m.r.Intn(len(fields)), true
		}
	}
	return "", 0, false
}

func (m *envMaker) term(depth, under int, params []string) impl.Term {
	if depth == 0 || m.r.Intn(5) == 0 {
		return m.leaf(under, params)
	}
	a := m.term(depth-1, under, params)
	switch m.r.Intn(7) {
	case 0:
		return lam("x", m.r.Intn(3), a, m.term(depth-1, under+1, params))
	case 1:
		return pi("x", m.r.Intn(3), a, m.term(depth-1, under+1, params))
	case 2:
		return let("x", a, m.term(depth-1, under, params), m.term(depth-1, under+1, params))
	case 3:
		if name, n, ok := m.structure(); ok {
			return proj(name, n, a)
		}
	}
	return app(a, m.term(depth-1, under, params))
}

// pisOf puts types around a term, each under those in front of it.
func pisOf(types []impl.Term, x impl.Term) impl.Term {
	for i, typ := range slices.Backward(types) {
		x = pi("p"+strconv.Itoa(i), 0, typ, x)
	}
	return x
}

func (m *envMaker) family(params []string) impl.Decl {
	d := impl.Decl{Kind: impl.KindFamily, Name: m.fresh("F"), Params: params, Fixed: m.r.Intn(3)}
	var types []impl.Term
	for i := range d.Fixed + m.r.Intn(2) {
		types = append(types, m.term(1, i, params))
	}
	d.Type = pisOf(types, read([]string{"*0", "*1", "*1"}[m.r.Intn(3)]))
	own := func(around int) impl.Term {
		x := selfOf(d).term()
		for i := range types {
			if i < d.Fixed {
				x = app(x, variable(around-1-i))
			} else {
				x = app(x, m.term(1, around, params))
			}
		}
		return x
	}
	for range m.r.Intn(3) {
		list := slices.Clone(types[:d.Fixed])
		for range m.r.Intn(3) {
			field := m.term(1, len(list), params)
			if m.r.Intn(4) == 0 {
				field = own(len(list))
			}
			list = append(list, field)
		}
		d.Ctors = append(d.Ctors, impl.Ctor{Name: m.fresh("c"), Type: pisOf(list, own(len(list)))})
	}
	return d
}

func (m *envMaker) decl() impl.Decl {
	params := [][]string{nil, {"u"}, {"v", "u"}}[m.r.Intn(3)]
	if m.r.Intn(3) == 0 {
		return m.family(params)
	}
	d := impl.Decl{Kind: 1 + m.r.Intn(3), Name: m.fresh("d"), Params: params, Type: m.term(2, 0, params)}
	if d.Kind != impl.KindAxiom {
		d.Value = m.term(3, 0, params)
	}
	return d
}

func randomEnv(r *rand.Rand) *envMaker {
	m := &envMaker{r: r, table: map[string]impl.Info{}}
	for range 2 + r.Intn(8) {
		switch _, ok := m.table["Eq"]; {
		case !ok && r.Intn(3) == 0:
			m.add(eqFamily())
		case ok && !slices.Contains(m.names, "Quot") && r.Intn(3) == 0:
			m.add(quotients())
		default:
			m.add(m.decl())
		}
	}
	return m
}

// spoiltNode changes a constant or a projection.
func (m *envMaker) spoiltNode(x tree) tree {
	name := append(slices.Clone(m.names), "nowhere")[m.r.Intn(len(m.names)+1)]
	switch {
	case x.node.K == impl.TermConst && m.r.Intn(2) == 0:
		x.node.Levels = append(slices.Clone(x.node.Levels), zero())
	case x.node.K == impl.TermConst || x.node.K == impl.TermProj && m.r.Intn(2) == 0:
		x.node.S = name
	case x.node.K == impl.TermProj:
		x.node.N += m.r.Intn(3)
	case m.r.Intn(2) == 0:
		return treeOf(constant(name, params(m.table[name].Params)...))
	default:
		return tree{impl.Node{K: impl.TermProj, S: name}, []tree{x}}
	}
	return x
}

func (m *envMaker) spoiltTerm(x impl.Term) impl.Term {
	if len(x.Nodes) == 0 {
		return x
	}
	place := m.r.Intn(len(x.Nodes))
	return treeOf(x).changedAt(&place, m.spoiltNode).term()
}

func (m *envMaker) spoiltDecl(d *impl.Decl) {
	name := m.names[m.r.Intn(len(m.names))]
	switch m.r.Intn(9) {
	case 0:
		d.Name = name
	case 1:
		if len(d.Ctors) > 0 {
			d.Ctors[m.r.Intn(len(d.Ctors))].Name = name
		}
	case 2:
		d.Params = append(d.Params, "w")
	case 3:
		d.Kind = 1 + m.r.Intn(5)
	case 4:
		d.Fixed = m.r.Intn(3)
	case 5, 6:
		d.Type = m.spoiltTerm(d.Type)
	case 7:
		d.Value = m.spoiltTerm(d.Value)
	default:
		if len(d.Ctors) > 0 {
			c := &d.Ctors[m.r.Intn(len(d.Ctors))]
			c.Type = m.spoiltTerm(c.Type)
		}
	}
}

// spoiltEnv is an environment that is a little other than the maker's.
func (m *envMaker) spoiltEnv() impl.Env {
	decls := copyEnv(m.e).Decls
	i, k := m.r.Intn(len(decls)), m.r.Intn(len(decls))
	switch m.r.Intn(8) {
	case 0:
		decls[i], decls[k] = decls[k], decls[i]
	case 1:
		decls = slices.Delete(decls, i, i+1)
	case 2:
		decls = slices.Insert(decls, k, copyDecl(decls[i]))
	case 3:
		decls = slices.Insert(decls, i, quotients())
	default:
		m.spoiltDecl(&decls[i])
	}
	return impl.Env{Decls: decls}
}

func TestEnvOfRandomDecls(t *testing.T) {
	t.Parallel()
	r := rand.New(rand.NewSource(61))
	for i := range 150 {
		m := randomEnv(r)
		what := "environment " + strconv.Itoa(i)
		holdEnv(t, what, m.e, true)
		holdConstants(t, what, m.e)
		for range 20 {
			x := m.term(3, 2, []string{"u", "q"})
			holdKnown(t, what+": "+written(x), m.e, x, 2, true)
			holdKnown(t, what+": "+written(x), m.e, x, 1, len(treeOf(x).numbers()) == 0 || treeOf(x).numbers()[1] == 0)
			y := m.spoiltTerm(x)
			holdKnown(t, what+": "+written(y), m.e, y, 2, slowKnows(m.e, m.table, y))
		}
	}
}

func TestEnvOfChangedDecls(t *testing.T) {
	t.Parallel()
	r := rand.New(rand.NewSource(62))
	counts := map[bool]int{}
	for i := range 1000 {
		m := randomEnv(r)
		e := m.spoiltEnv()
		what := "environment " + strconv.Itoa(i)
		ok := slowEnvOk(e)
		counts[ok]++
		holdEnv(t, what, e, ok)
		switch {
		case !ok && i%5 == 0:
			holdBroken(t, what, e)
		case ok && i%5 == 0:
			holdConstants(t, what, e)
		}
	}
	if counts[true] < 200 || counts[false] < 200 {
		t.Errorf("%d valid environments, and %d others", counts[true], counts[false])
	}
}
