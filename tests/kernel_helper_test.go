package tests

import (
	"fmt"
	"slices"
	"testing"

	"loop.example/g00005/impl"
)

// kernelEnv has only declarations that may stand there: those of convEnv without
// the few that no kernel takes.
func kernelEnv() impl.Env {
	refused := []string{"ever", "statement", "few", "much", "stuck"}
	var e impl.Env
	for _, d := range convEnv().Decls {
		if !slices.Contains(refused, d.Name) {
			e.Decls = append(e.Decls, d)
		}
	}
	return e
}

// newAxiom, newDef and newTheorem are short for what the cases have most of.
func newAxiom(typ string) impl.Decl {
	return declared(impl.KindAxiom, "new", "", typ, "")
}

func newDef(typ, value string) impl.Decl {
	return declared(impl.KindDef, "new", "", typ, value)
}

func newTheorem(typ, value string) impl.Decl {
	return declared(impl.KindTheorem, "new", "", typ, value)
}

// slowKernel says what the kernel answers, with the words of the document.
type slowKernel struct {
	e     impl.Env
	valid bool
	table map[string]impl.Info
}

func slowKernelOn(e impl.Env) *slowKernel {
	if !slowEnvOk(e) {
		return &slowKernel{e: e}
	}
	return &slowKernel{e, true, slowTable(e)}
}

func familyAxiom(d impl.Decl) impl.Decl {
	return impl.Decl{Kind: impl.KindAxiom, Name: d.Name, Params: d.Params, Type: d.Type}
}

// slowLacks is for one term: a constant comes ahead of a projection.
func slowLacks(e impl.Env, table map[string]impl.Info, x impl.Term) int {
	if slowKnows(e, table, x) {
		return 0
	}
	for _, n := range x.Nodes {
		if n.K == impl.TermConst && !slowKnows(e, table, impl.Term{Nodes: []impl.Node{n}}) {
			return impl.CodeConst
		}
	}
	return impl.CodeProj
}

// ready gives the codes that come without work, for a shaped declaration.
func (k *slowKernel) ready(d impl.Decl) int {
	names, _ := slowInfos(d)
	for _, name := range names {
		if _, taken := k.table[name]; taken {
			return impl.CodeName
		}
	}
	if d.Kind == impl.KindQuot {
		if !slices.ContainsFunc(k.e.Decls, slowEquality) {
			return impl.CodeQuot
		}
		return 0
	}
	if d.Kind == impl.KindFamily {
		if code, _ := slowForm(d); code != 0 {
			return code
		}
		if slowRecursor(d).size() > impl.MaxNodes {
			return impl.CodeSize
		}
	}
	terms := []impl.Term{d.Type}
	if len(d.Value.Nodes) > 0 {
		terms = append(terms, d.Value)
	}
	for _, x := range terms {
		if code := slowLacks(k.e, k.table, x); code != 0 {
			return code
		}
	}
	e := behind(k.e, familyAxiom(d))
	for _, c := range d.Ctors {
		if code := slowLacks(e, slowTable(e), c.Type); code != 0 {
			return code
		}
	}
	return 0
}

// kernelAnswer is the work and the code of Add or Universe.
type kernelAnswer struct {
	work, code int
}

func (k *slowKernel) add(d impl.Decl, fuel int) kernelAnswer {
	switch {
	case fuel < 0 || fuel > impl.MaxFuel || !k.valid || !impl.DeclOk(d):
		return kernelAnswer{0, impl.CodeInput}
	case len(k.e.Decls) >= 300:
		return kernelAnswer{0, impl.CodeSize}
	}
	if code := k.ready(d); code != 0 {
		return kernelAnswer{0, code}
	}
	_, work, code := slowStepsIn(k.e).slowly(fuel, func(m *slowMeter) tree {
		if d.Kind != impl.KindQuot {
			k.check(&slowChecker{slowMeter: m, params: d.Params, same: m.compareTypes}, d)
		}
		return tree{}
	})
	return kernelAnswer{work, code}
}

func (k *slowKernel) check(c *slowChecker, d impl.Decl) {
	typ, _ := c.infer(nil, treeOf(d.Type), 0)
	level := c.mustLevel(typ, 0)
	if d.Kind == impl.KindTheorem && impl.LevelSign(level) != 1 {
		c.refuse(impl.CodeProp)
	}
	if d.Kind == impl.KindDef || d.Kind == impl.KindTheorem {
		typ, _ := c.infer(nil, treeOf(d.Value), 0)
		if !c.same(nil, typ, treeOf(d.Type)) {
			c.refuse(impl.CodeArg)
		}
	}
	if d.Kind == impl.KindFamily {
		// only the environment is another one; the work goes on
		c.slowSteps = slowStepsIn(behind(k.e, familyAxiom(d)))
		for i, ctor := range d.Ctors {
			typ, _ := c.infer(nil, treeOf(ctor.Type), 0)
			c.mustLevel(typ, 0)
			c.fit(d, i)
		}
	}
}

// fit looks at the fields of a constructor.
func (w *slowMeter) fit(d impl.Decl, ctor int) {
	if slowInProp(d) {
		return
	}
	_, sort := piTypes(treeOf(d.Type))
	types, _ := piTypes(treeOf(d.Ctors[ctor].Type))
	for i := d.Fixed; i < len(types); i++ {
		if !impl.LevelLeq(w.sortOf(types[:i:i], types[i]), sort.node.Levels[0]) {
			panic(slowEnd{impl.CodeUniverse})
		}
	}
}

func (k *slowKernel) universe(d impl.Decl, ctor, fuel int) kernelAnswer {
	wrong := fuel < 0 || fuel > impl.MaxFuel || !k.valid || !impl.DeclOk(d) || d.Kind != impl.KindFamily || ctor < 0 || ctor >= len(d.Ctors)
	if wrong || k.ready(d) != 0 {
		return kernelAnswer{0, impl.CodeInput}
	}
	_, work, code := slowStepsIn(behind(k.e, familyAxiom(d))).slowly(fuel, func(m *slowMeter) tree {
		m.fit(d, ctor)
		return tree{}
	})
	return kernelAnswer{work, code}
}

// kernelAsk is a question to the kernel: Add, or Universe of a constructor.
type kernelAsk struct {
	d        impl.Decl
	universe bool
	ctor     int
}

func (q kernelAsk) text() string {
	text := fmt.Sprintf("kind %d, %s %v: %s, %s", q.d.Kind, q.d.Name, q.d.Params, short(told(q.d.Type)), short(told(q.d.Value)))
	for _, c := range q.d.Ctors {
		text += "; " + c.Name + ": " + short(told(c.Type))
	}
	if q.universe {
		return fmt.Sprintf("universe of %d in %s", q.ctor, text)
	}
	return text
}

// ask gives the answer; it fails when the environment is not the one that goes
// with it.
func (q kernelAsk) ask(t *testing.T, e impl.Env, fuel int) kernelAnswer {
	t.Helper()
	if q.universe {
		work, code := impl.Universe(e, q.d, q.ctor, fuel)
		return kernelAnswer{work, code}
	}
	next, work, code := impl.Add(e, q.d, fuel)
	if code == 0 && !equalEnvs(next, behind(e, q.d)) || code != 0 && len(next.Decls) != 0 {
		t.Errorf("%s: code %d, and %d declarations, or others", q.text(), code, len(next.Decls))
	}
	return kernelAnswer{work, code}
}

func (q kernelAsk) slowly(k *slowKernel, fuel int) kernelAnswer {
	if q.universe {
		return k.universe(q.d, q.ctor, fuel)
	}
	return k.add(q.d, fuel)
}

func (q kernelAsk) hold(t *testing.T, e impl.Env, fuel int, want kernelAnswer) {
	t.Helper()
	if got := q.ask(t, e, fuel); got != want {
		t.Errorf("%s\nfuel %d: %v, not %v", q.text(), fuel, got, want)
	}
}

// holdEveryFuel holds an answer, and the slow way's beside it, with every fuel up
// to more than it needs, and with the greatest one: promise 11.
func (q kernelAsk) holdEveryFuel(t *testing.T, k *slowKernel, answer kernelAnswer) {
	t.Helper()
	before, front := copyDecl(q.d), copyEnv(k.e)
	for fuel := 0; fuel <= answer.work+2; fuel++ {
		want := answer
		if fuel < answer.work {
			want = kernelAnswer{fuel, impl.CodeFuel}
		}
		q.hold(t, k.e, fuel, want)
		if slow := q.slowly(k, fuel); slow != want {
			t.Errorf("%s\nfuel %d: by the slow way %v, not %v", q.text(), fuel, slow, want)
		}
	}
	q.hold(t, k.e, impl.MaxFuel, answer)
	for _, fuel := range []int{-1, impl.MaxFuel + 1, -1 << 62, 1 << 62} {
		q.hold(t, k.e, fuel, kernelAnswer{0, impl.CodeInput})
	}
	if !equalDecls(q.d, before) || !equalEnvs(k.e, front) {
		t.Errorf("%s: an argument was changed", q.text())
	}
}

// kernelCase is a declaration with the work and the code that Add has for it.
type kernelCase struct {
	d          impl.Decl
	work, code int
}

func holdKernelCases(t *testing.T, e impl.Env, cases []kernelCase) {
	t.Helper()
	k := slowKernelOn(e)
	for _, c := range cases {
		kernelAsk{d: c.d}.holdEveryFuel(t, k, kernelAnswer{c.work, c.code})
	}
}
