package tests

import (
	"slices"
	"testing"

	"loop.example/g00005/impl"
)

func envOf(decls ...impl.Decl) impl.Env {
	return impl.Env{Decls: decls}
}

// behind gives the environment with more declarations; the one that is given
// keeps its own list.
func behind(e impl.Env, more ...impl.Decl) impl.Env {
	return impl.Env{Decls: slices.Concat(e.Decls, more)}
}

func copyEnv(e impl.Env) impl.Env {
	var decls []impl.Decl
	for _, d := range e.Decls {
		decls = append(decls, copyDecl(d))
	}
	return impl.Env{Decls: decls}
}

func equalEnvs(a, b impl.Env) bool {
	return slices.EqualFunc(a.Decls, b.Decls, equalDecls)
}

func equalInfos(a, b impl.Info) bool {
	return a.Kind == b.Kind && a.Decl == b.Decl && a.Ctor == b.Ctor && slices.Equal(a.Params, b.Params) && equalTerms(a.Type, b.Type)
}

const eqType = "[! A 0 *u [! a 0 #0 [! b 0 #1 *0]]]"
const eqRefl = "[! A 0 *u [! a 0 #0 [[[Eq{u} #1] #0] #0]]]"

func eqFamily() impl.Decl {
	return family("Eq", "u", 2, eqType, "Eq.refl", eqRefl)
}

// sampleEnv has constants of all eleven kinds.
func sampleEnv() impl.Env {
	return envOf(
		natFamily(),
		declared(impl.KindAxiom, "some", "", "Nat", ""),
		declared(impl.KindDef, "two", "", "Nat", "[Nat.succ [Nat.succ Nat.zero]]"),
		declared(impl.KindDef, "four", "", "Nat", "[Nat.succ [Nat.succ two]]"),
		eqFamily(),
		declared(impl.KindTheorem, "easy", "", "[[[Eq{1} Nat] four] four]", "[[Eq.refl{1} Nat] four]"),
		quotients(),
		prodFamily(),
		declared(impl.KindDef, "id", "u", "[! A 1 *u [! a 0 #0 #1]]", "[^ A 1 *u [^ a 0 #0 #0]]"),
		vecFamily(),
		declared(impl.KindAxiom, "many", "a b c d e f", "[Vec{max(a,b)} *imax(c,d)]", ""),
		family("Six", "a b c d e f", 0, "*1", "Six.mk", "[! x 0 *a Six{a,b,c,d,e,f}]"),
	)
}

// quotTable is that of the document.
func quotTable() []impl.Ctor {
	return []impl.Ctor{
		{Name: "Quot", Type: read("[! A 0 *u+1 [! r 0 [! a 0 #0 [! b 0 #1 *0]] *u+1]]")},
		{Name: "Quot.mk", Type: read("[! A 0 *u+1 [! r 0 [! a 0 #0 [! b 0 #1 *0]] [! a 0 #1 [[Quot{u} #2] #1]]]]")},
		{Name: "Quot.lift", Type: read("[! A 0 *u+1 [! r 0 [! a 0 #0 [! b 0 #1 *0]] [! B 0 *v [! f 0 [! a 0 #2 #1] [! h 0 [! a 0 #3 [! b 0 #4 [! p 0 [[#4 #1] #0] [[[Eq{v} #4] [#3 #2]] [#3 #1]]]]] [! q 0 [[Quot{u} #4] #3] #3]]]]]]")},
		{Name: "Quot.ind", Type: read("[! A 0 *u+1 [! r 0 [! a 0 #0 [! b 0 #1 *0]] [! B 0 [! q 0 [[Quot{u} #1] #0] *0] [! h 0 [! a 0 #2 [#1 [[[Quot.mk{u} #3] #2] #0]]] [! q 0 [[Quot{u} #3] #2] [#2 #0]]]]]]")},
		{Name: "Quot.sound", Type: read("[! A 0 *u+1 [! r 0 [! a 0 #0 [! b 0 #1 *0]] [! a 0 #1 [! b 0 #2 [! p 0 [[#2 #1] #0] [[[Eq{u+1} [[Quot{u} #4] #3]] [[[Quot.mk{u} #4] #3] #2]] [[[Quot.mk{u} #4] #3] #1]]]]]]]")},
	}
}

// slowInfos are the constants of a shaped declaration, in order, with their
// names.
func slowInfos(d impl.Decl) ([]string, []impl.Info) {
	if d.Kind == impl.KindQuot {
		var names []string
		var infos []impl.Info
		for i, c := range quotTable() {
			names = append(names, c.Name)
			infos = append(infos, impl.Info{Kind: impl.InfoQuot + i, Params: impl.LevelsOf(c.Type), Type: c.Type})
		}
		return names, infos
	}
	names := []string{d.Name}
	infos := []impl.Info{{Kind: d.Kind, Params: d.Params, Type: d.Type}}
	if d.Kind != impl.KindFamily {
		return names, infos
	}
	for i, c := range d.Ctors {
		names = append(names, c.Name)
		infos = append(infos, impl.Info{Kind: impl.InfoCtor, Ctor: i, Params: d.Params, Type: c.Type})
	}
	typ, _ := impl.RecursorType(d)
	return append(names, d.Name+".rec"), append(infos, impl.Info{Kind: impl.InfoRecursor, Params: impl.RecursorParams(d), Type: typ})
}

// allNames are those of all shaped declarations, in order.
func allNames(e impl.Env) []string {
	var list []string
	for _, d := range e.Decls {
		if impl.DeclOk(d) {
			names, _ := slowInfos(d)
			list = append(list, names...)
		}
	}
	return list
}

// slowTable has the constants of an environment whose declarations are shaped;
// a name that is given twice is what it is first.
func slowTable(e impl.Env) map[string]impl.Info {
	table := map[string]impl.Info{}
	for i, d := range e.Decls {
		names, infos := slowInfos(d)
		for k, name := range names {
			if _, ok := table[name]; !ok {
				infos[k].Decl = i
				table[name] = infos[k]
			}
		}
	}
	return table
}

// slowKnows looks at the constants and projections of a valid term, in an
// environment with such a table.
func slowKnows(e impl.Env, table map[string]impl.Info, t impl.Term) bool {
	for _, n := range t.Nodes {
		info, ok := table[n.S]
		switch n.K {
		case impl.TermConst:
			if !ok || len(info.Params) != len(n.Levels) {
				return false
			}
		case impl.TermProj:
			if !ok || info.Kind != impl.InfoFamily || !impl.IsStructure(e.Decls[info.Decl]) {
				return false
			}
			if fields, _ := impl.FieldsOf(e.Decls[info.Decl], 0); n.N >= len(fields) {
				return false
			}
		}
	}
	return true
}

func slowEnvOk(e impl.Env) bool {
	if len(e.Decls) > 300 {
		return false
	}
	for _, d := range e.Decls {
		if !impl.DeclOk(d) {
			return false
		}
	}
	table := slowTable(e)
	if len(table) != len(allNames(e)) {
		return false
	}
	for i, d := range e.Decls {
		front := map[string]impl.Info{}
		for name, info := range table {
			if info.Decl < i {
				front[name] = info
			}
		}
		if !slowTakes(impl.Env{Decls: e.Decls[:i]}, front, d) {
			return false
		}
	}
	return true
}

// slowTakes says whether a shaped declaration can stand behind an environment,
// but for its names.
func slowTakes(e impl.Env, table map[string]impl.Info, d impl.Decl) bool {
	if d.Kind == impl.KindQuot {
		return slices.ContainsFunc(e.Decls, slowEquality)
	}
	if !slowKnows(e, table, d.Type) || d.Kind != impl.KindAxiom && d.Kind != impl.KindFamily && !slowKnows(e, table, d.Value) {
		return false
	}
	if d.Kind != impl.KindFamily {
		return true
	}
	if _, code := impl.RecursorType(d); code != 0 {
		return false
	}
	table[d.Name] = impl.Info{Kind: impl.InfoAxiom, Params: d.Params}
	return !slices.ContainsFunc(d.Ctors, func(c impl.Ctor) bool { return !slowKnows(e, table, c.Type) })
}

func slowEquality(d impl.Decl) bool {
	return d.Kind == impl.KindFamily && d.Name == "Eq" && slices.Equal(d.Params, []string{"u"}) && d.Fixed == 2 && impl.SameTerm(d.Type, read(eqType)) &&
		len(d.Ctors) == 1 && d.Ctors[0].Name == "Eq.refl" && impl.SameTerm(d.Ctors[0].Type, read(eqRefl))
}

// constsIn are the names of a term's constants.
func constsIn(t impl.Term) []string {
	var names []string
	for _, n := range t.Nodes {
		if n.K == impl.TermConst {
			names = append(names, n.S)
		}
	}
	return names
}

// slowHeights are those of the definitions of a valid environment.
func slowHeights(e impl.Env) map[string]int {
	heights := map[string]int{}
	for _, d := range e.Decls {
		if d.Kind == impl.KindDef {
			heights[d.Name] = 1
			for _, name := range constsIn(d.Value) {
				heights[d.Name] = max(heights[d.Name], heights[name]+1)
			}
		}
	}
	return heights
}

// slowAxioms is for a constant of a valid environment: it goes on until no more
// constants are reached.
func slowAxioms(e impl.Env, table map[string]impl.Info, name string) []string {
	reached := []string{name}
	for i := 0; i < len(reached); i++ {
		d := e.Decls[table[reached[i]].Decl]
		terms := []impl.Term{d.Type, d.Value}
		for _, c := range d.Ctors {
			terms = append(terms, c.Type)
		}
		if d.Kind == impl.KindQuot {
			for _, c := range quotTable() {
				terms = append(terms, c.Type)
			}
			reached = append(reached, "Quot.sound")
		}
		for _, t := range terms {
			reached = append(reached, constsIn(t)...)
		}
		reached = firsts(reached)
	}
	var axioms []string
	for _, name := range allNames(e) {
		kind := table[name].Kind
		if slices.Contains(reached, name) && (kind == impl.InfoAxiom || kind == impl.InfoSound) {
			axioms = append(axioms, name)
		}
	}
	return axioms
}

// firsts has each text once, at its first place.
func firsts(texts []string) []string {
	var list []string
	for _, text := range texts {
		if !slices.Contains(list, text) {
			list = append(list, text)
		}
	}
	return list
}

// holdEnv says whether the environment is valid, by both ways. One that is not
// has no constant and knows nothing.
func holdEnv(t *testing.T, what string, e impl.Env, want bool) {
	t.Helper()
	before := copyEnv(e)
	if got := impl.EnvOk(e); got != want {
		t.Errorf("%s: valid is %v", what, got)
		return
	}
	if slowEnvOk(e) != want {
		t.Errorf("%s: by the slow way valid is %v", what, !want)
	}
	if impl.Known(e, prop(), 0) != want {
		t.Errorf("%s: known is %v", what, !want)
	}
	if names := allNames(e); len(names) > 0 {
		if _, ok := impl.Find(e, names[0]); ok != want {
			t.Errorf("%s: found is %v", what, ok)
		}
		if !want {
			holdAbsent(t, what, e, names[len(names)-1], impl.CodeInput)
		}
	}
	if !equalEnvs(e, before) {
		t.Errorf("%s: the environment was changed", what)
	}
}

// holdConstants holds all that can be asked of a valid environment.
func holdConstants(t *testing.T, what string, e impl.Env) {
	t.Helper()
	heights, table := slowHeights(e), slowTable(e)
	for name, want := range table {
		if got, ok := impl.Find(e, name); !ok || !equalInfos(got, want) {
			t.Errorf("%s: %s is %v, %v", what, name, got, ok)
		}
		if got, code := impl.ConstType(e, name, params(want.Params)); code != 0 || !equalTerms(got, want.Type) {
			t.Errorf("%s: %s has code %d and type %s", what, name, code, written(got))
		}
		if len(want.Params) <= impl.MaxParams && !impl.Known(e, constant(name, params(want.Params)...), 0) {
			t.Errorf("%s: %s is not known", what, name)
		}
		if got := impl.Height(e, name); got != heights[name] {
			t.Errorf("%s: %s has height %d, not %d", what, name, got, heights[name])
		}
		if got, ok := impl.AxiomsOf(e, name); !ok || !slices.Equal(got, slowAxioms(e, table, name)) {
			t.Errorf("%s: %s hangs on %v, %v", what, name, got, ok)
		}
	}
	for _, name := range []string{"", "nowhere", "Quot.rec", "Nat.Nat", ".", "Nat.", "\xff"} {
		if _, there := table[name]; !there {
			holdAbsent(t, what, e, name, impl.CodeConst)
		}
	}
}

// holdBroken is for environments that are not valid.
func holdBroken(t *testing.T, what string, e impl.Env) {
	t.Helper()
	for _, name := range firsts(append([]string{"", "nowhere"}, allNames(e)...)) {
		holdAbsent(t, what, e, name, impl.CodeInput)
	}
}

// holdAbsent is for a name that is not there, with the code that ConstType has.
func holdAbsent(t *testing.T, what string, e impl.Env, name string, code int) {
	t.Helper()
	if info, ok := impl.Find(e, name); ok || !equalInfos(info, impl.Info{}) {
		t.Errorf("%s: %q is %v, %v", what, name, info, ok)
	}
	if typ, got := impl.ConstType(e, name, nil); got != code || len(typ.Nodes) != 0 {
		t.Errorf("%s: %q has code %d and a type of %d nodes", what, name, got, len(typ.Nodes))
	}
	if impl.Known(e, constant(name), 0) || impl.Known(e, proj(name, 0, prop()), 0) {
		t.Errorf("%s: %q is known", what, name)
	}
	if got := impl.Height(e, name); got != 0 {
		t.Errorf("%s: %q has height %d", what, name, got)
	}
	if got, ok := impl.AxiomsOf(e, name); ok || len(got) != 0 {
		t.Errorf("%s: %q hangs on %v, %v", what, name, got, ok)
	}
}
