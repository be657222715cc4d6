package tests

import (
	"math/rand"
	"slices"
	"strconv"
	"strings"
	"testing"

	"loop.example/g00005/impl"
)

// namedContext are constants for the variables of convContext, and their types.
func namedContext() []impl.Decl {
	var decls []impl.Decl
	for _, c := range [][2]string{
		{"vx", "Nat"}, {"vy", "Nat"}, {"vf", "[! n 0 Nat Nat]"}, {"vg", "[! m 1 Nat Nat]"}, {"vp", "[[Prod{0,0} Nat] Nat]"}, {"vq", "[[Prod{0,0} Nat] Nat]"},
		{"vu", "Unit"}, {"vw", "Unit"}, {"vP", "[! n 0 Nat *0]"}, {"vh", "[vP vx]"}, {"vk", "[vP vx]"}, {"vA", "*1"},
	} {
		decls = append(decls, declared(impl.KindAxiom, c[0], "", c[1], ""))
	}
	return decls
}

// kernelMaker makes declarations, most of which may stand behind its environment,
// and puts there those that may.
type kernelMaker struct {
	*checkMaker
	e     impl.Env
	count int
}

func newKernelMaker(r *rand.Rand, faults int) *kernelMaker {
	return &kernelMaker{&checkMaker{r, checkTexts(), faults}, behind(claimEnv(), namedContext()...), 0}
}

func (m *kernelMaker) fresh(begin string) string {
	m.count++
	return begin + strconv.Itoa(m.count)
}

// oneOf gives one of the texts.
func (m *kernelMaker) oneOf(texts ...string) string {
	return texts[m.r.Intn(len(texts))]
}

// closed is a small term of a type, without variables.
func (m *kernelMaker) closed(typ string) impl.Term {
	for {
		x := m.make(typ, m.r.Intn(4))
		if x.size() > 60 || len(impl.HolesOf(x.term())) > 0 || len(impl.LevelsOf(x.term())) > 0 || slices.Contains(constsIn(x.term()), "ever") {
			continue
		}
		for _, d := range slices.Backward(namedContext()) {
			x = x.put(treeOf(constant(d.Name)))
		}
		return x.term()
	}
}

// plain is an axiom, a definition or a theorem.
func (m *kernelMaker) plain() impl.Decl {
	d := impl.Decl{Kind: 1 + m.r.Intn(3), Name: m.fresh("n")}
	switch d.Kind {
	case impl.KindAxiom:
		d.Type = m.closed("aType")
	case impl.KindDef:
		typ := m.oneOf("aNat", "aPair", "aFun", "aType")
		d.Type = read(map[string][]string{
			"aNat": {"Nat", "Nat", "[[id{2} *1] Nat]"}, "aPair": {"[[Prod{0,0} Nat] Nat]", "Pair"}, "aFun": {"[! x 0 Nat Nat]", "Fun"}, "aType": {"*1", "Set", "*1"},
		}[typ][m.r.Intn(2)])
		d.Value = m.closed(typ)
	case impl.KindTheorem:
		a := m.closed("aNat")
		b := a
		if m.r.Intn(2) == 0 {
			b, _, _ = impl.Normal(m.e, a, 300)
		}
		if m.r.Intn(5) == 0 || len(b.Nodes) == 0 {
			b = m.closed("aNat")
		}
		one := succ(zero(), 1)
		d.Type = app(constant("Eq", one), constant("Nat"), a, b)
		d.Value = app(constant("Eq.refl", one), constant("Nat"), a)
		if m.r.Intn(10) == 0 {
			d.Type, d.Value = read(m.oneOf("Nat", "True", "claim")), read(m.oneOf("proof", "two", "True.intro"))
		}
	}
	return d
}

// openField is a variable's type, seen from where it stands: whether it is a
// type, or a number.
type openField struct {
	isType, isNumber bool
}

// family is one whose parameters may be types, and whose index is a number.
func (m *kernelMaker) family() impl.Decl {
	d := impl.Decl{Kind: impl.KindFamily, Name: m.fresh("F"), Params: strings.Fields(m.oneOf("", "u", "u v"))}
	names := append([]string{"0", "1"}, d.Params...)
	level := func() string { return m.oneOf(names...) }
	var types []impl.Term
	var known []openField
	for range m.r.Intn(3) {
		text := m.oneOf("*"+level(), "*"+level(), "Nat")
		types = append(types, read(text))
		known = append(known, openField{text != "Nat", text == "Nat"})
	}
	d.Fixed = len(types)
	indexed := m.r.Intn(3) == 0
	whole := slices.Clone(types)
	if indexed {
		whole = append(whole, constant("Nat"))
	}
	sort := m.oneOf("0", "1", "2", "1", level()+"+1", "max("+level()+",1)", "max("+level()+","+level()+")+1")
	if sort == "0+1" {
		sort = "1"
	}
	d.Type = pisOf(whole, read("*"+strings.NewReplacer("0+1", "1", "1+1", "2").Replace(sort)))
	for range m.r.Intn(4) {
		list, around := slices.Clone(types), slices.Clone(known)
		for range m.r.Intn(4) {
			typ, is := m.field(d, around, indexed)
			list, around = append(list, typ), append(around, is)
		}
		d.Ctors = append(d.Ctors, impl.Ctor{Name: m.fresh("c"), Type: pisOf(list, m.own(d, around, indexed))})
	}
	return d
}

// own is the family of its parameters and some number.
func (m *kernelMaker) own(d impl.Decl, around []openField, indexed bool) impl.Term {
	x := selfOf(d).term()
	for i := range d.Fixed {
		x = app(x, variable(len(around)-1-i))
	}
	if !indexed {
		return x
	}
	for i, f := range around {
		if f.isNumber && m.r.Intn(2) == 0 {
			return app(x, variable(len(around)-1-i))
		}
	}
	return app(x, m.closed("aNat"))
}

func (m *kernelMaker) field(d impl.Decl, around []openField, indexed bool) (impl.Term, openField) {
	switch m.r.Intn(7) {
	case 0:
		return m.own(d, around, indexed), openField{}
	case 1:
		under := append(slices.Clone(around), openField{false, true})
		return pi("n", 0, constant("Nat"), m.own(d, under, indexed)), openField{}
	case 2:
		return read("*" + m.oneOf(append([]string{"0", "0"}, d.Params...)...)), openField{isType: true}
	case 3:
		return constant("Nat"), openField{isNumber: true}
	}
	for i, f := range around {
		if f.isType && m.r.Intn(2) == 0 {
			return variable(len(around) - 1 - i), openField{}
		}
	}
	return m.closed("aType"), openField{}
}

func (m *kernelMaker) decl() impl.Decl {
	d := m.plain()
	if m.r.Intn(5) < 2 {
		d = m.family()
	}
	// a name that is taken, here and there
	if m.r.Intn(40) == 0 {
		d.Name = m.oneOf("two", "Nat", "vx", "Eq.refl")
	}
	return d
}

// add holds what Add and Universe answer, and puts what may stand there behind
// the environment: promise 6.
func (m *kernelMaker) add(t *testing.T, d impl.Decl, counts checkCounts) {
	t.Helper()
	k := &slowKernel{m.e, true, slowTable(m.e)}
	fuel := impl.MaxFuel
	if m.r.Intn(4) == 0 {
		fuel = m.r.Intn(1 + m.r.Intn(80))
	}
	before, held := copyEnv(m.e), copyDecl(d)
	for ctor := range d.Ctors {
		want := k.universe(d, ctor, fuel)
		if got := (kernelAsk{d, true, ctor}.ask(t, m.e, fuel)); want.code != slowLost && got != want {
			t.Fatalf("%s\nfuel %d: %v, not %v", kernelAsk{d, true, ctor}.text(), fuel, got, want)
		}
	}
	want := k.add(d, fuel)
	counts[want.code]++
	next, work, code := impl.Add(m.e, d, fuel)
	if want.code != slowLost && (kernelAnswer{work, code}) != want {
		t.Fatalf("%s\nfuel %d: %v, not %v", kernelAsk{d: d}.text(), fuel, kernelAnswer{work, code}, want)
	}
	if !equalEnvs(m.e, before) || !equalDecls(d, held) {
		t.Fatalf("%s: an argument was changed", kernelAsk{d: d}.text())
	}
	if code != 0 {
		if len(next.Decls) != 0 {
			t.Fatalf("%s: refused, and an environment", kernelAsk{d: d}.text())
		}
		return
	}
	if !impl.EnvOk(next) || !equalEnvs(next, behind(before, held)) {
		t.Fatalf("%s: the new environment is not valid, or another one", kernelAsk{d: d}.text())
	}
	m.e = next
}

func TestAddRandomDeclarations(t *testing.T) {
	t.Parallel()
	r := rand.New(rand.NewSource(111))
	counts := checkCounts{}
	for i := range 9 {
		m := newKernelMaker(r, 70*(i%3))
		for range 50 {
			m.add(t, m.decl(), counts)
		}
		if got, at, code := impl.AddAll(m.e.Decls, impl.MaxFuel); code != 0 || at != 0 || !equalEnvs(got, m.e) {
			t.Errorf("all of them: code %d at %d", code, at)
		}
		if !slowEnvOk(m.e) {
			t.Errorf("by the slow way the environment is not valid")
		}
	}
	counts.holdMet(t, 200, 0)
	counts.holdMet(t, 10, impl.CodeFuel, impl.CodeArg, impl.CodeSort, impl.CodeUniverse)
	counts.holdMet(t, 3, impl.CodeName, impl.CodeProp)
}

// Declarations with any mistake, behind environments of any kind.
func TestAddAnyDeclarations(t *testing.T) {
	t.Parallel()
	r := rand.New(rand.NewSource(112))
	counts := checkCounts{}
	for i := range 120 {
		m := randomEnv(r)
		k := slowKernelOn(m.e)
		if i%6 == 5 {
			k = slowKernelOn(m.spoiltEnv())
		}
		for range 8 {
			d := m.decl()
			if r.Intn(2) == 0 {
				m.spoiltDecl(&d)
			}
			fuel := []int{-1, 0, 3, 20, 300, impl.MaxFuel, impl.MaxFuel, impl.MaxFuel + 1}[r.Intn(8)]
			for ctor := -1; ctor <= len(d.Ctors); ctor++ {
				q := kernelAsk{d, ctor >= 0, ctor}
				want := q.slowly(k, fuel)
				counts[want.code]++
				if want.code != slowLost {
					q.hold(t, k.e, fuel, want)
				}
			}
		}
	}
	counts.holdMet(t, 20, 0, impl.CodeInput, impl.CodeSort, impl.CodeFun)
	counts.holdMet(t, 10, impl.CodeArg, impl.CodeName, impl.CodeConst, impl.CodeProj, impl.CodeFuel, impl.CodeFamily, impl.CodeCtor)
}
