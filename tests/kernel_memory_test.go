package tests

import (
	"slices"
	"sync"
	"testing"

	"loop.example/g00005/impl"
)

// richDecls are declarations of every kind that may stand behind claimEnv, with
// levels and terms in all of their parts.
func richDecls() []impl.Decl {
	return []impl.Decl{
		declared(impl.KindAxiom, "new", "u v", "[! A 0 *max(u,v) [! B 1 *imax(u,v) [! x 2 #1 *max(u,1)]]]", ""),
		declared(impl.KindDef, "new", "u v", "[! A 0 *max(u,v)+1 *max(u,v)+1]", "[^ A 0 *max(u,v)+1 [[id{max(u,v)+2} *max(u,v)+1] #0]]"),
		declared(impl.KindTheorem, "new", "u", "[! A 0 *max(u,1) [! a 0 #0 [[[Eq{max(u,1)} #1] #0] #0]]]", "[^ A 0 *max(u,1) [^ a 0 #0 [[Eq.refl{max(u,1)} #1] #0]]]"),
		family("F", "u v", 2, "[! A 0 *max(u,v)+1 [! B 0 *u+1 [! n 0 Nat *max(u,v)+1]]]",
			"F.nil", "[! A 0 *max(u,v)+1 [! B 0 *u+1 [[[F{u,v} #1] #0] two]]]",
			"F.cons", "[! A 0 *max(u,v)+1 [! B 0 *u+1 [! n 0 Nat [! a 0 #2 [! t 0 [[[F{u,v} #3] #2] #1] [[[F{u,v} #4] #3] [Nat.succ #2]]]]]]]"),
	}
}

// withoutQuotients is claimEnv with no more of them than the equality.
func withoutQuotients() impl.Env {
	var e impl.Env
	for _, d := range claimEnv().Decls {
		if d.Kind != impl.KindQuot {
			e.Decls = append(e.Decls, d)
		}
	}
	return e
}

func TestKernelAnswersAreNewMemory(t *testing.T) {
	for _, d := range append(richDecls(), quotients()) {
		e := withoutQuotients()
		first, _, code := impl.Add(e, d, impl.MaxFuel)
		second, _, _ := impl.Add(e, d, impl.MaxFuel)
		if code != 0 {
			t.Errorf("%s: code %d", kernelAsk{d: d}.text(), code)
		}
		kept = append(kept, e, d, first, second)
		spans := envSpans(envSpans(envSpans(nil, e), first), second)
		holdApart(t, d.Name, declSpans(spans, d))
	}
	decls := withoutQuotients().Decls
	first, _, _ := impl.AddAll(decls, impl.MaxFuel)
	second, _, _ := impl.AddAll(decls, impl.MaxFuel)
	kept = append(kept, decls, first, second)
	holdApart(t, "all", envSpans(envSpans(envSpans(nil, envOf(decls...)), first), second))
	// the same memory at two places of what is given
	shared := read("[! x 0 *max(u,1) #0]")
	d := impl.Decl{Kind: impl.KindAxiom, Name: "new", Params: []string{"u"}, Type: shared}
	other := d
	other.Name = "newer"
	both, _, code := impl.AddAll([]impl.Decl{d, other}, 0)
	kept = append(kept, d, both)
	if code != 0 {
		t.Errorf("code %d", code)
	}
	holdApart(t, "shared", declSpans(envSpans(nil, both), d))
}

// spoilEnv writes over all that an environment has.
func spoilEnv(e impl.Env) {
	for i := range e.Decls {
		d := &e.Decls[i]
		spoilTerm(d.Type)
		spoilTerm(d.Value)
		for k := range d.Ctors {
			spoilTerm(d.Ctors[k].Type)
			d.Ctors[k] = impl.Ctor{Name: "spoilt"}
		}
		for k := range d.Params {
			d.Params[k] = "spoilt"
		}
		*d = impl.Decl{Kind: 99}
	}
}

func TestKernelAnswersStandAlone(t *testing.T) {
	e := withoutQuotients()
	for i, d := range richDecls() {
		next, _, _ := impl.Add(e, d, impl.MaxFuel)
		spoilEnv(next)
		if !equalEnvs(e, withoutQuotients()) || !equalDecls(d, richDecls()[i]) {
			t.Fatalf("%s: the answer shares memory with an argument", d.Name)
		}
		if again, _, code := impl.Add(e, d, impl.MaxFuel); code != 0 || !equalEnvs(again, behind(e, d)) {
			t.Errorf("%s: another answer", d.Name)
		}
	}
	all, _, _ := impl.AddAll(e.Decls, impl.MaxFuel)
	spoilEnv(all)
	if !equalEnvs(e, withoutQuotients()) {
		t.Errorf("the answer shares memory with an argument")
	}
}

// Nothing is written into an argument, nor behind it.
func TestKernelArgumentsStay(t *testing.T) {
	front := withoutQuotients()
	wrong := []impl.Decl{newAxiom("two"), newAxiom("nothing"), newDef("Nat", "Nat"), newTheorem("Nat", "two"), family("F", "", 0, "*1", "c", "[! x 0 *1 F]"), family("two", "", 0, "*1")}
	for _, d := range slices.Concat(richDecls(), wrong, []impl.Decl{quotients()}) {
		room := make([]impl.Decl, len(front.Decls), len(front.Decls)+3)
		copy(room, copyEnv(front).Decls)
		before := copyDecl(d)
		d.Params = append(make([]string, 0, 8), d.Params...)
		d.Ctors = append(make([]impl.Ctor, 0, 8), d.Ctors...)
		d.Type, d.Value = withRoom(d.Type), withRoom(d.Value)
		for i := range d.Ctors {
			d.Ctors[i].Type = withRoom(d.Ctors[i].Type)
		}
		for _, fuel := range []int{-1, 0, 3, impl.MaxFuel} {
			impl.Add(impl.Env{Decls: room}, d, fuel)
			impl.Universe(impl.Env{Decls: room}, d, 0, fuel)
			impl.AddAll(append(room, d)[:len(room)], fuel)
		}
		room[:len(room)+1][len(room)] = impl.Decl{}
		impl.Add(impl.Env{Decls: room}, d, impl.MaxFuel)
		if !equalEnvs(impl.Env{Decls: room}, front) || !equalDecls(d, before) {
			t.Errorf("%s: an argument was changed", d.Name)
		}
		if room[:len(room)+1][len(room)].Kind != 0 || d.Params[:len(d.Params)+1][len(d.Params)] != "" || d.Ctors[:len(d.Ctors)+1][len(d.Ctors)].Name != "" {
			t.Errorf("%s: something was put behind an argument", d.Name)
		}
		if behindNodes(d.Type) != 0 || behindNodes(d.Value) != 0 {
			t.Errorf("%s: something was put behind a term", d.Name)
		}
	}
}

// Nothing is kept from call to call: each answer is that of the first call.
func TestKernelAskedAgain(t *testing.T) {
	e := claimEnv()
	d := newDef("[[Vec{1} Nat] [[add two] two]]", "[any{2} [[Vec{1} Nat] four]]")
	for range 3 {
		kernelAsk{d: d}.hold(t, e, 11, kernelAnswer{11, 0})
		kernelAsk{d: d}.hold(t, e, 10, kernelAnswer{10, impl.CodeFuel})
		// the same names for other things
		other := envOf(slices.Clone(e.Decls)...)
		for i := range other.Decls {
			if other.Decls[i].Name == "four" {
				other.Decls[i] = declared(impl.KindAxiom, "four", "", "Nat", "")
			}
		}
		kernelAsk{d: d}.hold(t, other, 100, kernelAnswer{17, impl.CodeArg})
		kernelAsk{d: newAxiom("new")}.hold(t, e, 10, kernelAnswer{0, impl.CodeConst})
		kernelAsk{d: newAxiom("Nat")}.hold(t, e, 10, kernelAnswer{})
	}
}

// Several may ask at the same time; each is told the same.
func TestKernelAskedBySeveral(t *testing.T) {
	e := claimEnv()
	universe := inSort("", "*1", "set", "[fam two]", "*1")
	var wait sync.WaitGroup
	for range 4 {
		wait.Go(func() {
			for range 3 {
				kernelAsk{d: newDef("[[Vec{1} Nat] [[add two] two]]", "[any{2} [[Vec{1} Nat] four]]")}.hold(t, e, 100, kernelAnswer{11, 0})
				kernelAsk{d: newTheorem("claim", "two")}.hold(t, e, 100, kernelAnswer{2, impl.CodeArg})
				kernelAsk{universe, true, 0}.hold(t, e, 100, kernelAnswer{3, impl.CodeUniverse})
				if all, at, code := impl.AddAll(e.Decls, 100); code != 0 || at != 0 || !equalEnvs(all, e) {
					t.Errorf("code %d at %d", code, at)
				}
			}
		})
	}
	wait.Wait()
}
