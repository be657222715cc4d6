package tests

import (
	"math/rand"
	"slices"
	"strconv"

	"loop.example/g00005/impl"
)

// surfMaker writes the tokens of texts, drawn rule by rule, and tells the trees
// that they are to be read as. At is the position of a token here.
type surfMaker struct {
	r      *rand.Rand
	tokens []string
}

func (m *surfMaker) put(tokens ...string) {
	m.tokens = append(m.tokens, tokens...)
}

func (m *surfMaker) at() int { return len(m.tokens) }

// chance is true in one of so many cases.
func (m *surfMaker) chance(of int) bool { return m.r.Intn(of) == 0 }

func (m *surfMaker) oneOf(list ...string) string {
	s := list[m.r.Intn(len(list))]
	m.put(s)
	return s
}

func (m *surfMaker) name() string {
	return m.oneOf("x", "y", "f", "Nat", "a.b", "Nat.succ", "intro", "refl", "max", "z'", "_.q", "fun.by")
}

func (m *surfMaker) short() string {
	return m.oneOf("x", "y", "z'", "_", "exact", "max", "A")
}

func (m *surfMaker) number(least, most int) int {
	n := least + m.r.Intn(most-least+1)
	if m.chance(2) {
		n = least + m.r.Intn(min(4, most-least+1))
	}
	text := strconv.Itoa(n)
	for len(text) < 3 && m.chance(8) {
		text = "0" + text
	}
	m.put(text)
	return n
}

// isBase says whether a token would be taken as part of a universe.
func (m *surfMaker) isBase(tok string) bool {
	last := func(by int) string {
		if len(m.tokens) < by {
			return ""
		}
		return m.tokens[len(m.tokens)-by]
	}
	behindName := slices.Contains([]string{"Type", "Sort"}, last(2)) && isNamePiece(last(1)) && !slices.Contains(surfWords, last(1))
	isName := isNamePiece(tok) && !slices.Contains(surfWords, tok)
	if last(1) == "Type" {
		return isName || isDigitPiece(tok) || tok == "("
	}
	return behindName && tok == "("
}

func (m *surfMaker) base(deep int) impl.Level {
	switch m.r.Intn(6) {
	case 0:
		return succ(zero(), m.number(0, 4))
	case 1:
		if deep > 0 {
			kind := impl.LevelMax
			if m.oneOf("max", "imax") == "imax" {
				kind = impl.LevelImax
			}
			m.put("(")
			a := m.level(deep - 1)
			m.put(",")
			b := m.level(deep - 1)
			m.put(")")
			return pair(kind, a, b)
		}
	case 2:
		if deep > 0 {
			m.put("(")
			l := m.level(deep - 1)
			m.put(")")
			return l
		}
	}
	return param(m.oneOf("u", "v", "w1", "refl"))
}

func (m *surfMaker) level(deep int) impl.Level {
	l := m.base(deep)
	if m.chance(3) {
		m.put("+")
		l = succ(l, m.number(0, 3))
	}
	return l
}

func (m *surfMaker) atom(deep int) surf {
	at := m.at()
	for {
		kind := m.r.Intn(9)
		switch {
		case kind < 3 && !m.isBase("x"):
			return m.nameAtom(deep)
		case kind == 3:
			m.put("_")
			return surfForm(impl.Form{K: impl.FormOpen, At: at})
		case kind == 4 && !m.isBase("1"):
			return surfForm(impl.Form{K: impl.FormNumber, N: m.number(0, impl.MaxNumber), At: at})
		case kind == 5:
			return m.universe(deep)
		case kind > 5 && !m.isBase("(") && deep > 0:
			m.put("(")
			t := m.term(deep - 1)
			if m.chance(2) {
				m.put(":")
				t = surfForm(impl.Form{K: impl.FormOf, At: at}, t, m.term(deep-1))
			}
			m.put(")")
			return t
		}
	}
}

func (m *surfMaker) nameAtom(deep int) surf {
	form := impl.Form{K: impl.FormName, At: m.at()}
	if m.chance(4) {
		m.put("@")
		form.M = 1
	}
	form.S = m.name()
	if m.chance(5) {
		m.put(".{")
		for i := range 1 + m.r.Intn(impl.MaxParams) {
			if i > 0 {
				m.put(",")
			}
			form.Levels = append(form.Levels, m.level(min(deep, 2)))
		}
		m.put("}")
	}
	return surfForm(form)
}

func (m *surfMaker) universe(deep int) surf {
	form := impl.Form{K: impl.FormSort, At: m.at()}
	l := zero()
	switch m.oneOf("Prop", "Type", "Sort") {
	case "Type":
		if m.chance(2) {
			l = m.base(min(deep, 2))
		}
		l = succ(l, 1)
	case "Sort":
		l = m.base(min(deep, 2))
	}
	form.Levels = []impl.Level{l}
	return surfForm(form)
}

func (m *surfMaker) post(deep int) surf {
	at := m.at()
	t := m.atom(deep)
	for m.chance(8) {
		m.put(".")
		t = surfForm(impl.Form{K: impl.FormProj, N: m.number(1, 999), At: at}, t)
	}
	return t
}

func surfApply(f, a surf) surf {
	return surfForm(impl.Form{K: impl.FormApp, At: f.At}, f, a)
}

func (m *surfMaker) application(deep int) surf {
	f := m.post(deep)
	for m.chance(3) {
		f = surfApply(f, m.post(deep))
	}
	return f
}

func surfOperation(name string, a, b surf) surf {
	return surfApply(surfApply(surfForm(impl.Form{K: impl.FormName, S: name, At: a.At}), a), b)
}

func (m *surfMaker) times(deep int) surf {
	a := m.application(deep)
	for m.chance(9) {
		m.put("*")
		a = surfOperation("Mul.mul", a, m.application(deep))
	}
	return a
}

func (m *surfMaker) sum(deep int) surf {
	a := m.times(deep)
	for m.chance(9) {
		m.put("+")
		a = surfOperation("Add.add", a, m.times(deep))
	}
	return a
}

func (m *surfMaker) equation(deep int) surf {
	a := m.sum(deep)
	if m.chance(9) {
		m.put("=")
		a = surfOperation("Eq", a, m.sum(deep))
	}
	return a
}

func (m *surfMaker) and(deep int) surf {
	a := m.equation(deep)
	if m.chance(9) {
		m.put(`/\`)
		a = surfOperation("And", a, m.and(deep))
	}
	return a
}

func (m *surfMaker) or(deep int) surf {
	a := m.and(deep)
	if m.chance(9) {
		m.put(`\/`)
		a = surfOperation("Or", a, m.or(deep))
	}
	return a
}

// surfBound is a short with its type, which stands in a binder or is left out.
type surfBound struct {
	impl.Form
	typ surf
}

func (m *surfMaker) binder(deep int) []surfBound {
	mode := m.r.Intn(3)
	m.put([]string{"(", "{", "["}[mode])
	var list []surfBound
	for more := true; more; more = m.chance(3) {
		at := m.at()
		list = append(list, surfBound{impl.Form{S: m.short(), M: mode, At: at}, surf{}})
	}
	m.put(":")
	typ := m.term(deep - 1)
	for i := range list {
		list[i].typ = typ
	}
	m.put([]string{")", "}", "]"}[mode])
	return list
}

func surfAround(kind int, list []surfBound, inside surf) surf {
	for _, b := range slices.Backward(list) {
		b.K = kind
		inside = surfForm(b.Form, b.typ, inside)
	}
	return inside
}

func (m *surfMaker) fun(deep int) surf {
	m.put("fun")
	var list []surfBound
	for more := true; more; more = m.chance(2) {
		if m.chance(2) {
			list = append(list, m.binder(deep)...)
			continue
		}
		at := m.at()
		short := m.short()
		list = append(list, surfBound{impl.Form{S: short, At: at}, surfForm(impl.Form{K: impl.FormOpen, At: at})})
	}
	m.put("=>")
	return surfAround(impl.FormFun, list, m.term(deep-1))
}

func (m *surfMaker) all(deep int) surf {
	m.put("forall")
	list := m.binder(deep)
	for m.chance(3) {
		list = append(list, m.binder(deep)...)
	}
	m.put(",")
	return surfAround(impl.FormAll, list, m.term(deep-1))
}

func (m *surfMaker) let(deep int) surf {
	form := impl.Form{K: impl.FormLet, At: m.at()}
	m.put("let")
	form.S = m.short()
	var typ surf
	if m.chance(2) {
		m.put(":")
		typ = m.term(deep - 1)
	} else {
		typ = surfForm(impl.Form{K: impl.FormOpen, At: m.at()})
	}
	m.put(":=")
	value := m.term(deep - 1)
	m.put(";")
	return surfForm(form, typ, value, m.term(deep-1))
}

func (m *surfMaker) term(deep int) surf {
	if deep > 0 {
		switch m.r.Intn(9) {
		case 0:
			return m.fun(deep)
		case 1:
			return m.all(deep)
		case 2:
			return m.let(deep)
		}
	}
	a := m.or(deep)
	if deep > 0 && m.chance(6) {
		m.put("->")
		a = surfForm(impl.Form{K: impl.FormAll, S: "_", At: a.At}, a, m.term(deep-1))
	}
	return a
}

func (m *surfMaker) params() []string {
	var names []string
	if !m.chance(3) {
		return nil
	}
	m.put(".{")
	for i, p := range m.r.Perm(7)[:1+m.r.Intn(impl.MaxParams)] {
		if i > 0 {
			m.put(",")
		}
		names = append(names, []string{"u", "v", "w", "u1", "refl", "x'", "__"}[p])
		m.put(names[i])
	}
	m.put("}")
	return names
}

func (m *surfMaker) numeral(at int) surf {
	n := m.number(0, 5)
	p := surfForm(impl.Form{K: impl.FormPattern, S: "Nat.zero", At: at})
	for range n {
		p = surfForm(impl.Form{K: impl.FormPattern, S: "Nat.succ", At: at}, p)
	}
	return p
}

// pattern is a simple where it is told so: a name alone has no kids then.
func (m *surfMaker) pattern(deep int, simple bool) surf {
	at := m.at()
	switch m.r.Intn(6) {
	case 0:
		m.put("_")
		return surfForm(impl.Form{K: impl.FormAny, At: at})
	case 1:
		return m.numeral(at)
	case 2:
		if deep > 0 {
			m.put("(")
			p := m.pattern(deep-1, false)
			m.put(")")
			return p
		}
	}
	p := surfForm(impl.Form{K: impl.FormPattern, S: m.name(), At: at})
	for !simple && deep > 0 && m.chance(2) {
		p.kids = append(p.kids, m.pattern(deep-1, true))
	}
	return p
}

func (m *surfMaker) clause(deep int) surf {
	c := surfForm(impl.Form{K: impl.FormClause, At: m.at()})
	m.put("|")
	c.kids = append(c.kids, m.pattern(deep, false))
	for m.chance(2) {
		m.put(",")
		c.kids = append(c.kids, m.pattern(deep, false))
	}
	m.put("=>")
	c.kids = append(c.kids, m.term(deep))
	return c
}

func (m *surfMaker) ctor(deep int) surf {
	m.put("|")
	at := m.at()
	c := surfForm(impl.Form{K: impl.FormCtor, S: m.name(), At: at})
	m.put(":")
	c.kids = append(c.kids, m.term(deep))
	return c
}

func (m *surfMaker) tactic(deep int) surf {
	x := surfForm(impl.Form{At: m.at()})
	switch tactic := m.oneOf("intro", "exact", "apply", "rewrite", "induction", "cases", "assumption", "refl", "constructor", "have"); tactic {
	case "intro", "induction", "cases":
		x.K = map[string]int{"intro": impl.FormIntro, "induction": impl.FormInduction, "cases": impl.FormCases}[tactic]
		x.S = m.short()
	case "rewrite":
		x.K = impl.FormRewrite
		if m.chance(2) {
			m.put("<-")
			x.M = 1
		}
		x.kids = []surf{m.term(deep)}
	case "exact", "apply":
		x.K = map[string]int{"exact": impl.FormExact, "apply": impl.FormApply}[tactic]
		x.kids = []surf{m.term(deep)}
	case "have":
		x.K = impl.FormHave
		x.S = m.short()
		m.put(":")
		typ := m.term(deep)
		m.put(":=")
		x.kids = []surf{typ, m.term(deep)}
	default:
		x.K = map[string]int{"assumption": impl.FormAssumption, "refl": impl.FormRefl, "constructor": impl.FormConstructor}[tactic]
	}
	return x
}

// fixed is the number behind a name, or none.
func (m *surfMaker) fixed() int {
	if m.chance(2) {
		return 0
	}
	return m.number(0, 50)
}

func (m *surfMaker) command(deep int) surf {
	x := surfForm(impl.Form{At: m.at()})
	word := m.oneOf("axiom", "def", "instance", "theorem", "def", "theorem", "family", "class", "quotient", "eval", "check")
	switch word {
	case "quotient":
		x.K = impl.FormQuot
		return x
	case "eval", "check":
		x.K = map[string]int{"eval": impl.FormEval, "check": impl.FormCheck}[word]
		x.kids = []surf{m.term(deep)}
		return x
	}
	x.S = m.name()
	x.Names = m.params()
	withClauses := word == "def" && m.chance(2)
	if word == "family" || word == "class" || withClauses {
		x.N = m.fixed()
		m.put(":")
		x.kids = []surf{m.term(deep)}
		m.list(&x, word, deep)
		return x
	}
	m.headed(&x, word, deep)
	return x
}

// list is for the commands with bars.
func (m *surfMaker) list(x *surf, word string, deep int) {
	switch word {
	case "def":
		x.K = impl.FormClauses
		for more := true; more; more = m.chance(2) {
			x.kids = append(x.kids, m.clause(deep))
		}
	case "family":
		x.K = impl.FormFamily
		for m.chance(2) {
			x.kids = append(x.kids, m.ctor(deep))
		}
	case "class":
		x.K = impl.FormClass
		x.kids = append(x.kids, m.ctor(deep))
	}
}

// headed is for the commands with binders.
func (m *surfMaker) headed(x *surf, word string, deep int) {
	var list []surfBound
	for m.chance(2) && len(list) < 4 {
		list = append(list, m.binder(deep)...)
	}
	m.put(":")
	x.kids = []surf{surfAround(impl.FormAll, list, m.term(deep))}
	x.K = map[string]int{"axiom": impl.FormAxiom, "def": impl.FormDef, "instance": impl.FormInstance, "theorem": impl.FormTheorem}[word]
	if word == "axiom" {
		return
	}
	if word == "theorem" && m.chance(2) {
		x.K = impl.FormScript
		m.put("by")
		x.kids = append(x.kids, m.tactic(deep))
		for m.chance(2) {
			m.put(";")
			x.kids = append(x.kids, m.tactic(deep))
		}
		return
	}
	m.put(":=")
	x.kids = append(x.kids, surfAround(impl.FormFun, list, m.term(deep)))
}

func (m *surfMaker) file(deep int) surf {
	x := surfForm(impl.Form{K: impl.FormFile})
	for m.chance(2) {
		x.kids = append(x.kids, m.command(deep))
	}
	return x
}

// placed has each At as an offset in a text, but for the file's, which is 0.
func (x surf) placed(offsets []int) surf {
	if x.K != impl.FormFile {
		x.At = offsets[x.At]
	}
	x.kids = slices.Clone(x.kids)
	for i, kid := range x.kids {
		x.kids[i] = kid.placed(offsets)
	}
	return x
}

// madeText is a drawn text that begins with a rule, and the tree of it.
func madeText(r *rand.Rand, start string, deep int) (string, []string, surf) {
	m := &surfMaker{r: r}
	var x surf
	if start == "file" {
		x = m.file(deep)
	} else {
		x = m.term(deep)
	}
	text, offsets := layOut(r, m.tokens)
	return text, m.tokens, x.placed(offsets)
}
