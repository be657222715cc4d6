package tests

import (
	"math/rand"
	"slices"
	"strconv"
	"testing"

	"loop.example/g00005/impl"
)

// formCase is a family with the code and the constructor that it should have.
type formCase struct {
	what string
	d    impl.Decl
	code int
	ctor int
}

func holdForms(t *testing.T, cases []formCase) {
	t.Helper()
	for _, c := range cases {
		before := copyDecl(c.d)
		if !impl.DeclOk(c.d) {
			t.Errorf("%s: not shaped", c.what)
			continue
		}
		holdForm(t, c.what, c.d, c.code, c.ctor)
		if code, ctor := slowForm(c.d); code != c.code || ctor != c.ctor {
			t.Errorf("%s: code %d at %d by the slow way", c.what, code, ctor)
		}
		if c.code == 0 {
			holdFormed(t, c.what, c.d)
		} else {
			holdUnformed(t, c.what, c.d)
		}
		if !equalDecls(c.d, before) {
			t.Errorf("%s: the declaration was changed", c.what)
		}
	}
}

func TestFormedFamilies(t *testing.T) {
	for _, d := range formedFamilies() {
		holdForms(t, []formCase{{d.Name, d, 0, 0}})
	}
}

func TestFormOfTypes(t *testing.T) {
	var cases []formCase
	add := func(code, fixed int, typ string) {
		cases = append(cases, formCase{typ, family("F", "u v", fixed, typ), code, 0})
	}
	for sort, code := range map[string]int{
		"*0": 0, "*1": 0, "*u+1": 0, "*max(u,1)": 0, "*imax(u,1)": 0, "*imax(u,v+2)": 0, "*imax(u,0)": 0, "*max(0,imax(u+1,0))": 0,
		"*u": impl.CodeFamily, "*imax(1,u)": impl.CodeFamily, "*max(u,v)": impl.CodeFamily, "*imax(u,v)": impl.CodeFamily, "*max(0,u)": impl.CodeFamily,
	} {
		add(code, 0, sort)
		add(code, 0, "[! x 0 *u "+sort+"]")
		add(code, 1, "[! x 0 *u "+sort+"]")
		add(code, 1, "[! x 0 *u [! y 1 #0 "+sort+"]]")
	}
	for _, typ := range []string{
		"Nat", "[Nat *1]", "[^ x 0 *1 *1]", "[= x *1 Nat *1]", "[! x 0 *1 #0]", "[! x 0 *1 [= y *1 Nat *1]]",
		"[[^ x 0 *2 #0] *1]", "[! x 0 Nat [*1 #0]]", "[. P 0 *1]", "[! x 0 Nat [^ x 0 Nat *1]]",
	} {
		add(impl.CodeFamily, 0, typ)
	}
	three := "[! a 0 *1 [! b 0 *1 [! c 0 *1 *1]]]"
	for fixed := range 6 {
		code := 0
		if fixed > 3 {
			code = impl.CodeFamily
		}
		add(code, fixed, three)
	}
	for _, inner := range []string{
		"F", "F{u,v}", "F{0}", "[. F 0 Nat]", "[Nat F]", "[! x 0 F Nat]", "[! x 0 Nat F]", "[^ x 0 Nat F]", "[= x Nat F Nat]", "[Nat [. F 3 Nat]]",
	} {
		add(impl.CodeFamily, 0, "[! x 0 "+inner+" *1]")
		add(impl.CodeFamily, 1, "[! x 0 Nat [! y 0 "+inner+" *1]]")
		add(impl.CodeFamily, 2, "[! x 0 Nat [! y 0 "+inner+" *1]]")
	}
	for _, other := range []string{"F.rec", "F.F", "G.F", "F'", "f", "[. F.x 0 Nat]", "[! F 0 Nat Nat]"} {
		add(0, 0, "[! x 0 "+other+" *1]")
	}
	deep := family("F", "", 50, "*1")
	cases = append(cases, formCase{"Fixed 50 of none", deep, impl.CodeFamily, 0})
	holdForms(t, cases)
}

// wide is a telescope of so many types around a term.
func wide(count int, inside string) string {
	for range count {
		inside = "[! a 0 Nat " + inside + "]"
	}
	return inside
}

func TestFormOfMostParameters(t *testing.T) {
	own := "F"
	for i := range 50 {
		own = "[" + own + " #" + strconv.Itoa(49-i) + "]"
	}
	holdForms(t, []formCase{
		{"50 of 50", family("F", "", 50, wide(50, "*1"), "c", wide(50, own)), 0, 0},
		{"50 of 49", family("F", "", 50, wide(49, "*1")), impl.CodeFamily, 0},
		{"a constructor's 49", family("F", "", 50, wide(50, "*1"), "c", wide(49, "F")), impl.CodeCtor, 0},
		{"51 and one index", family("F", "", 50, wide(51, "*1"), "c", wide(50, "["+own+" Nat.zero]")), 0, 0},
		{"51 without the index", family("F", "", 50, wide(51, "*1"), "c", wide(50, own)), impl.CodeCtor, 0},
	})
}

func TestFormOfConstructors(t *testing.T) {
	var cases []formCase
	// Each family has a constructor that is as it should be in front of the one
	// that is looked at, and behind it.
	add := func(code int, params string, fixed int, typ, good, ctor string) {
		cases = append(cases,
			formCase{ctor, family("F", params, fixed, typ, "a", good, "b", ctor, "c", good), code, min(code, 1)},
			formCase{ctor, family("F", params, fixed, typ, "b", ctor), code, 0},
		)
	}
	two := "[! A 0 *u [! B 0 #0 [! n 0 Nat *1]]]"
	good := "[! A 0 *u [! B 0 #0 [[[F{u,v} #1] #0] Nat.zero]]]"
	for ctor, code := range map[string]int{
		good: 0,
		// S and M of binders, and how a level is spelt, mean nothing.
		"[! X 1 *u [! Y 2 #0 [[[F{u,v} #1] #0] Nat.zero]]]":        0,
		"[! A 0 *max(u,u) [! B 0 #0 [[[F{u,v} #1] #0] Nat.zero]]]": 0,
		"[! A 0 *u [! B 0 #0 [! n 0 Nat [[[F{u,v} #2] #1] #0]]]]":  0,
		"[! A 0 *u [! B 0 #0 [[[F{u,v} #1] #0] [! x 0 #1 Nat]]]]":  0,
		// Too few types, or others.
		"F{u,v}":                                 impl.CodeCtor,
		"[! A 0 *u [F{u,v} #0]]":                 impl.CodeCtor,
		"[! A 0 *u [[[F{u,v} #0] #0] Nat.zero]]": impl.CodeCtor,
		"[! A 0 *v [! B 0 #0 [[[F{u,v} #1] #0] Nat.zero]]]":     impl.CodeCtor,
		"[! A 0 *u+1 [! B 0 #0 [[[F{u,v} #1] #0] Nat.zero]]]":   impl.CodeCtor,
		"[! A 0 *u [! B 0 *u [[[F{u,v} #1] #0] Nat.zero]]]":     impl.CodeCtor,
		"[! A 0 *u [! B 0 Nat [[[F{u,v} #1] #0] Nat.zero]]]":    impl.CodeCtor,
		"[! A 0 *u [^ B 0 #0 [[[F{u,v} #1] #0] Nat.zero]]]":     impl.CodeCtor,
		"[! A 0 F{u,v} [! B 0 #0 [[[F{u,v} #1] #0] Nat.zero]]]": impl.CodeCtor,
		// The levels.
		"[! A 0 *u [! B 0 #0 [[[F{v,u} #1] #0] Nat.zero]]]":        impl.CodeCtor,
		"[! A 0 *u [! B 0 #0 [[[F{u} #1] #0] Nat.zero]]]":          impl.CodeCtor,
		"[! A 0 *u [! B 0 #0 [[[F #1] #0] Nat.zero]]]":             impl.CodeCtor,
		"[! A 0 *u [! B 0 #0 [[[F{u,v,v} #1] #0] Nat.zero]]]":      impl.CodeCtor,
		"[! A 0 *u [! B 0 #0 [[[F{u,u} #1] #0] Nat.zero]]]":        impl.CodeCtor,
		"[! A 0 *u [! B 0 #0 [[[F{u,v+1} #1] #0] Nat.zero]]]":      impl.CodeCtor,
		"[! A 0 *u [! B 0 #0 [[[F{u,0} #1] #0] Nat.zero]]]":        impl.CodeCtor,
		"[! A 0 *u [! B 0 #0 [[[F{u,max(v,v)} #1] #0] Nat.zero]]]": impl.CodeCtor,
		"[! A 0 *u [! B 0 #0 [[[F{u,max(0,v)} #1] #0] Nat.zero]]]": impl.CodeCtor,
		// The parameters' variables.
		"[! A 0 *u [! B 0 #0 [[[F{u,v} #0] #1] Nat.zero]]]":                  impl.CodeCtor,
		"[! A 0 *u [! B 0 #0 [[[F{u,v} #1] #1] Nat.zero]]]":                  impl.CodeCtor,
		"[! A 0 *u [! B 0 #0 [[[F{u,v} #0] #0] Nat.zero]]]":                  impl.CodeCtor,
		"[! A 0 *u [! B 0 #0 [[[F{u,v} Nat] #0] Nat.zero]]]":                 impl.CodeCtor,
		"[! A 0 *u [! B 0 #0 [! n 0 Nat [[[F{u,v} #1] #0] #0]]]]":            impl.CodeCtor,
		"[! A 0 *u [! B 0 #0 [! n 0 Nat [[[F{u,v} #2] #0] #0]]]]":            impl.CodeCtor,
		"[! A 0 *u [! B 0 #0 [[[F{u,v} [[^ x 0 Nat #0] #1]] #0] Nat.zero]]]": impl.CodeCtor,
		// The indices.
		"[! A 0 *u [! B 0 #0 [[F{u,v} #1] #0]]]":                            impl.CodeCtor,
		"[! A 0 *u [! B 0 #0 [[[[F{u,v} #1] #0] Nat.zero] Nat.zero]]]":      impl.CodeCtor,
		"[! A 0 *u [! B 0 #0 F{u,v}]]":                                      impl.CodeCtor,
		"[! A 0 *u [! B 0 #0 [[[F{u,v} #1] #0] F]]]":                        impl.CodeCtor,
		"[! A 0 *u [! B 0 #0 [[[F{u,v} #1] #0] [Nat.succ F{0}]]]]":          impl.CodeCtor,
		"[! A 0 *u [! B 0 #0 [[[F{u,v} #1] #0] [. F 0 Nat.zero]]]]":         impl.CodeCtor,
		"[! A 0 *u [! B 0 #0 [[[F{u,v} #1] #0] [! x 0 Nat [^ y 0 F #0]]]]]": impl.CodeCtor,
		// What is no such application at all.
		"[! A 0 *u [! B 0 #0 Nat]]":                                          impl.CodeCtor,
		"[! A 0 *u [! B 0 #0 #0]]":                                           impl.CodeCtor,
		"[! A 0 *u [! B 0 #0 [[[G{u,v} #1] #0] Nat.zero]]]":                  impl.CodeCtor,
		"[! A 0 *u [! B 0 #0 [[[F.rec{u,v} #1] #0] Nat.zero]]]":              impl.CodeCtor,
		"[! A 0 *u [! B 0 #0 [= x Nat Nat.zero [[[F{u,v} #2] #1] #0]]]]":     impl.CodeCtor,
		"[! A 0 *u [! B 0 #0 [[^ x 0 Nat [[[F{u,v} #2] #1] #0]] Nat.zero]]]": impl.CodeCtor,
		"[! A 0 *u [! B 0 #0 [. F 0 [[[F{u,v} #1] #0] Nat.zero]]]]":          impl.CodeCtor,
		"[! A 0 *u [! B 0 #0 [^ n 0 Nat [[[F{u,v} #2] #1] #0]]]]":            impl.CodeCtor,
		"[! A 0 *u [! B 0 #0 *1]]":                                           impl.CodeCtor,
	} {
		add(code, "u v", 2, two, good, ctor)
	}
	holdForms(t, cases)
}

func TestFormOfFields(t *testing.T) {
	var cases []formCase
	good := "[! A 0 *1 [[F #0] Nat.zero]]"
	for field, code := range map[string]int{
		"Nat": 0, "#0": 0, "[! x 0 #0 #1]": 0, "[! F 0 #0 Nat]": 0, "F.rec": 0, "F.F": 0, "[G #0]": 0,
		// Fields of F under none, one and two functions; k is for n in front.
		"[[F #0] Nat.zero]": 0, "[! x 0 Nat [[F #1] #0]]": 0, "[! x 0 Nat [! y 0 [G #0 ] [[F #2] #1]]]": 0,
		"[! x 0 #0 [! y 0 #1 [[F #2] [Nat.succ Nat.zero]]]]": 0, "[! x 0 [! y 0 #0 #1] [[F #1] [#0 Nat.zero]]]": 0,
		// F in a telescope's type.
		"[! x 0 [[F #0] Nat.zero] [[F #1] Nat.zero]]": impl.CodePositive, "[! x 0 [[F #0] Nat.zero] Nat]": impl.CodePositive,
		"[! x 0 Nat [! y 0 F [[F #2] Nat.zero]]]": impl.CodePositive, "[! x 0 [. F 0 Nat] [[F #1] Nat.zero]]": impl.CodePositive,
		"[! x 0 [! y 0 Nat F] [[F #1] Nat.zero]]": impl.CodePositive, "[! x 0 [! y 0 F Nat] Nat]": impl.CodePositive,
		// F elsewhere, or not quite F's own.
		"F": impl.CodePositive, "[F #0]": impl.CodePositive, "[[[F #0] Nat.zero] Nat.zero]": impl.CodePositive,
		"[[F Nat] Nat.zero]": impl.CodePositive, "[[F{0} #0] Nat.zero]": impl.CodePositive, "[[F #0] F]": impl.CodePositive,
		"[[F #0] [. F 0 Nat]]": impl.CodePositive, "[. F 0 Nat]": impl.CodePositive, "[. F 0 [[F #0] Nat.zero]]": impl.CodePositive,
		"[List [[F #0] Nat.zero]]": impl.CodePositive, "[^ x 0 Nat [[F #1] Nat.zero]]": impl.CodePositive,
		"[= x Nat Nat.zero [[F #1] Nat.zero]]": impl.CodePositive, "[[^ x 0 *1 #0] [[F #0] Nat.zero]]": impl.CodePositive,
		"[! x 0 Nat [[F #0] Nat.zero]]": impl.CodePositive, "[! x 0 Nat [! y 0 Nat [[F #1] Nat.zero]]]": impl.CodePositive,
		"[! x 0 Nat [List [[F #1] Nat.zero]]]": impl.CodePositive, "[! x 0 Nat [! y 0 Nat [[F #2] F]]]": impl.CodePositive,
	} {
		behind := treeOf(read(field)).lifted(0, 1).text()
		ctors := map[string]string{
			"alone":     "[! A 0 *1 [! f 0 " + field + " [[F #1] Nat.zero]]]",
			"in front":  "[! A 0 *1 [! f 0 " + field + " [! n 0 Nat [[F #2] #0]]]]",
			"behind":    "[! A 0 *1 [! n 0 Nat [! f 0 " + behind + " [[F #2] #1]]]]",
			"behind F":  "[! A 0 *1 [! n 0 [[F #0] Nat.zero] [! f 0 " + behind + " [[F #2] Nat.zero]]]]",
			"two of it": "[! A 0 *1 [! n 0 " + field + " [! f 0 " + behind + " [[F #2] Nat.zero]]]]",
		}
		for where, ctor := range ctors {
			cases = append(cases,
				formCase{field + " " + where, family("F", "", 1, "[! A 0 *1 [! n 0 Nat *1]]", "a", ctor), code, 0},
				formCase{field + " " + where, family("F", "", 1, "[! A 0 *1 [! n 0 Nat *1]]", "a", good, "b", good, "c", ctor, "d", good), code, min(code, 2)},
			)
		}
	}
	holdForms(t, cases)
}

// Within Fixed 0 all types of a constructor are fields, and F may be applied to
// anything that it is not in.
func TestFormWithoutParameters(t *testing.T) {
	typ := "[! A 0 *1 [! n 0 Nat *1]]"
	holdForms(t, []formCase{
		{"other arguments", family("F", "", 0, typ, "c", "[! x 0 [[F Nat] Nat.zero] [[F [! y 0 Nat Nat]] Nat.zero]]"), 0, 0},
		{"F in the first", family("F", "", 0, typ, "c", "[[F [[F Nat] Nat.zero]] Nat.zero]"), impl.CodeCtor, 0},
		{"F in a field's first", family("F", "", 0, typ, "c", "[! x 0 [[F [[F Nat] Nat.zero]] Nat.zero] [[F Nat] Nat.zero]]"), impl.CodePositive, 0},
		{"the first as a parameter", family("F", "", 1, typ, "c", "[! A 0 *1 [! x 0 [[F #0] Nat.zero] [[F #1] Nat.zero]]]"), 0, 0},
		{"the first as an index", family("F", "", 0, typ, "c", "[! A 0 *1 [! x 0 [[F Nat] Nat.zero] [[F #1] Nat.zero]]]"), 0, 0},
		{"another parameter", family("F", "", 1, typ, "c", "[! A 0 *1 [! x 0 [[F Nat] Nat.zero] [[F #1] Nat.zero]]]"), impl.CodePositive, 0},
		{"both as parameters", family("F", "", 2, typ, "c", "[! A 0 *1 [! n 0 Nat [! x 0 [[F #1] #0] [[F #2] #1]]]]"), 0, 0},
	})
}

// Several mistakes: the first in the order of codes is told, constructor by
// constructor.
func TestFormOrderOfCodes(t *testing.T) {
	const (
		good     = "[! A 0 *1 [F #0]]"
		wrong    = "[! A 0 *1 [F Nat]]"
		negative = "[! A 0 *1 [! f 0 [! x 0 [F #0] Nat] [F #1]]]"
		both     = "[! A 0 *1 [! f 0 [! x 0 [F #0] Nat] [F Nat]]]"
		typ      = "[! A 0 *1 *1]"
	)
	form := func(typ string, types ...string) impl.Decl {
		var ctors []string
		for i, x := range types {
			ctors = append(ctors, "c"+strconv.Itoa(i), x)
		}
		return family("F", "", 1, typ, ctors...)
	}
	holdForms(t, []formCase{
		{"type and constructors", form("[! A 0 *1 Nat]", wrong, negative), impl.CodeFamily, 0},
		{"type and a later constructor", form("[! A 0 F *1]", good, negative), impl.CodeFamily, 0},
		{"both", form(typ, both), impl.CodeCtor, 0},
		{"both, behind", form(typ, good, both), impl.CodeCtor, 1},
		{"positive ahead of ctor", form(typ, negative, wrong), impl.CodePositive, 0},
		{"ctor ahead of positive", form(typ, wrong, negative), impl.CodeCtor, 0},
		{"good, positive, ctor", form(typ, good, negative, wrong), impl.CodePositive, 1},
		{"good, good, ctor, positive", form(typ, good, good, wrong, negative), impl.CodeCtor, 2},
		{"positive, positive", form(typ, good, negative, negative), impl.CodePositive, 1},
	})
	notShaped := form("[! A 0 F Nat]", wrong, negative)
	notShaped.Ctors[1].Name = "c0"
	holdForm(t, "not shaped, and all else", notShaped, impl.CodeInput, 0)
	last := slices.Repeat([]string{good}, impl.MaxCtors)
	last[impl.MaxCtors-1] = negative
	holdForms(t, []formCase{{"the last of all", form(typ, last...), impl.CodePositive, impl.MaxCtors - 1}})
}

// changedAt gives the tree with another part at a place, counted from the root.
func (x tree) changedAt(place *int, change func(tree) tree) tree {
	*place--
	if *place < 0 {
		*place = 1 << 40
		return change(x)
	}
	y := tree{node: x.node}
	for _, kid := range x.kids {
		y.kids = append(y.kids, kid.changedAt(place, change))
	}
	return y
}

// spoiltPart is a tree that is a little other than the one that is given.
func spoiltPart(r *rand.Rand, d impl.Decl, x tree) tree {
	switch r.Intn(10) {
	case 0:
		return selfOf(d)
	case 1:
		return treeOf(proj(d.Name, 0, constant("c")))
	case 2:
		return treeOf(constant("c"))
	case 3:
		return treeOf(variable(r.Intn(4)))
	case 4:
		return tree{impl.Node{K: impl.TermApp}, []tree{x, treeOf(constant("c"))}}
	case 5:
		return tree{impl.Node{K: impl.TermPi, S: "p"}, []tree{treeOf(constant("c")), x.lifted(0, 1)}}
	case 6:
		if len(x.kids) > 0 {
			return x.kids[r.Intn(len(x.kids))]
		}
	case 7:
		if x.node.K == impl.TermConst && len(x.node.Levels) > 0 {
			x.node.Levels = slices.Clone(x.node.Levels)
			x.node.Levels[0] = randomLevel(r, 3, append([]string{"q"}, d.Params...))
			return x
		}
	case 8:
		if x.node.K == impl.TermSort {
			return treeOf(universe(randomLevel(r, 3, append([]string{"q"}, d.Params...))))
		}
	}
	if x.node.K == impl.TermVar {
		x.node.N = max(0, x.node.N+r.Intn(3)-1)
	}
	return x
}

func spoiltTerm(r *rand.Rand, d impl.Decl, x impl.Term) impl.Term {
	place := r.Intn(len(x.Nodes))
	return treeOf(x).changedAt(&place, func(x tree) tree { return spoiltPart(r, d, x) }).term()
}

func spoiltDecl(r *rand.Rand, d impl.Decl) impl.Decl {
	d = copyDecl(d)
	switch {
	case r.Intn(12) == 0:
		d.Fixed += r.Intn(3) - 1
	case r.Intn(12) == 0 && len(d.Params) > 1:
		slices.Reverse(d.Params)
	case r.Intn(4) == 0 || len(d.Ctors) == 0:
		d.Type = spoiltTerm(r, d, d.Type)
	default:
		i := r.Intn(len(d.Ctors))
		d.Ctors[i].Type = spoiltTerm(r, d, d.Ctors[i].Type)
	}
	return d
}

// Families that are formed, and what comes of them by a change or two, against
// the slow way.
func TestFormOfChangedFamilies(t *testing.T) {
	t.Parallel()
	r := rand.New(rand.NewSource(51))
	codes := map[int]int{}
	for range 3000 {
		d := randomFamily(r)
		for range r.Intn(3) {
			d = spoiltDecl(r, d)
		}
		code, ctor := impl.CodeInput, 0
		if impl.DeclOk(d) {
			code, ctor = slowForm(d)
		}
		codes[code]++
		what := "F : " + written(d.Type)
		for _, c := range d.Ctors {
			what += "; " + written(c.Type)
		}
		holdForm(t, what, d, code, ctor)
		if code == 0 {
			holdFormed(t, what, d)
		} else {
			holdUnformed(t, what, d)
		}
	}
	for _, code := range []int{0, impl.CodeInput, impl.CodeFamily, impl.CodeCtor, impl.CodePositive} {
		if codes[code] < 100 {
			t.Errorf("code %d only %d times", code, codes[code])
		}
	}
}
