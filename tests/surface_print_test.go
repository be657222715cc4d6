package tests

import (
	"math/rand"
	"regexp"
	"slices"
	"strconv"
	"strings"
	"testing"

	"loop.example/g00005/impl"
)

// randomSurf is any valid term or file, also those that no text with operators or
// binders around heads is read as.
func randomSurf(r *rand.Rand, deep int) surf {
	if r.Intn(2) == 0 {
		return randomSurfTerm(r, deep)
	}
	x := surfKind(impl.FormFile)
	for r.Intn(3) > 0 {
		x.kids = append(x.kids, randomSurfCommand(r, deep))
	}
	return x
}

func randomSurfName(r *rand.Rand) string {
	return []string{"x", "y", "a.b", "Nat.succ", "intro", "max", "_.x", "fun.let", "x'", "Eq"}[r.Intn(10)]
}

func randomSurfShort(r *rand.Rand) string {
	return []string{"x", "y", "_", "imax", "by'", "refl"}[r.Intn(6)]
}

func randomSurfLevels(r *rand.Rand, count int) []impl.Level {
	var levels []impl.Level
	for range count {
		levels = append(levels, randomLevel(r, 1+r.Intn(12), []string{"u", "v", "w", "intro"}))
	}
	return levels
}

func randomSurfTerm(r *rand.Rand, deep int) surf {
	part := func() surf { return randomSurfTerm(r, deep-1) }
	kind := impl.FormName + r.Intn(impl.FormOf)
	if deep == 0 {
		kind = []int{impl.FormName, impl.FormOpen, impl.FormSort, impl.FormNumber}[r.Intn(4)]
	}
	x := surfForm(impl.Form{K: kind, At: r.Intn(9)})
	switch kind {
	case impl.FormName:
		x.S, x.M, x.Levels = randomSurfName(r), r.Intn(2), randomSurfLevels(r, max(0, r.Intn(12)-5))
	case impl.FormSort:
		x.Levels = randomSurfLevels(r, 1)
	case impl.FormApp, impl.FormOf:
		x.kids = []surf{part(), part()}
	case impl.FormFun, impl.FormAll:
		x.S, x.M = randomSurfShort(r), r.Intn(3)
		x.kids = []surf{part(), part()}
	case impl.FormLet:
		x.S = randomSurfShort(r)
		x.kids = []surf{part(), part(), part()}
	case impl.FormNumber:
		x.N = r.Intn(impl.MaxNumber + 1)
	case impl.FormProj:
		x.N = 1 + r.Intn(999)
		x.kids = []surf{part()}
	}
	return x
}

func randomSurfPattern(r *rand.Rand, deep int) surf {
	if r.Intn(4) == 0 {
		return surfKind(impl.FormAny)
	}
	x := surfNamed(impl.FormPattern, randomSurfName(r))
	for deep > 0 && r.Intn(2) == 0 {
		x.kids = append(x.kids, randomSurfPattern(r, deep-1))
	}
	return x
}

func randomSurfTactic(r *rand.Rand, deep int) surf {
	x := surfKind(impl.FormIntro + r.Intn(impl.FormHave-impl.FormIntro+1))
	switch x.K {
	case impl.FormIntro, impl.FormInduction, impl.FormCases:
		x.S = randomSurfShort(r)
	case impl.FormExact, impl.FormApply, impl.FormRewrite:
		x.kids = []surf{randomSurfTerm(r, deep)}
		if x.K == impl.FormRewrite {
			x.M = r.Intn(2)
		}
	case impl.FormHave:
		x.S = randomSurfShort(r)
		x.kids = []surf{randomSurfTerm(r, deep), randomSurfTerm(r, deep)}
	}
	return x
}

func randomSurfCommand(r *rand.Rand, deep int) surf {
	kinds := []int{impl.FormAxiom, impl.FormDef, impl.FormTheorem, impl.FormScript, impl.FormFamily, impl.FormClass, impl.FormInstance, impl.FormQuot, impl.FormEval, impl.FormCheck, impl.FormClauses}
	term := func() surf { return randomSurfTerm(r, deep) }
	x := surfKind(kinds[r.Intn(len(kinds))])
	if x.K == impl.FormQuot {
		return x
	}
	x.kids = []surf{term()}
	if x.K == impl.FormEval || x.K == impl.FormCheck {
		return x
	}
	x.S = randomSurfName(r)
	names := []string{"u", "v", "w", "u1", "x'", "intro"}
	x.Names = names[:max(0, r.Intn(12)-5)]
	switch x.K {
	case impl.FormDef, impl.FormTheorem, impl.FormInstance:
		x.kids = append(x.kids, term())
	case impl.FormScript:
		for more := true; more; more = r.Intn(2) == 0 {
			x.kids = append(x.kids, randomSurfTactic(r, deep))
		}
	case impl.FormFamily, impl.FormClass:
		x.N = r.Intn(51) * r.Intn(2)
		for more := x.K == impl.FormClass || r.Intn(2) == 0; more; more = x.K == impl.FormFamily && r.Intn(2) == 0 {
			x.kids = append(x.kids, surfNamed(impl.FormCtor, randomSurfName(r), term()))
		}
	case impl.FormClauses:
		x.N = r.Intn(51) * r.Intn(2)
		for more := true; more; more = r.Intn(2) == 0 {
			clause := surfKind(impl.FormClause, randomSurfPattern(r, deep))
			for r.Intn(2) == 0 {
				clause.kids = append(clause.kids, randomSurfPattern(r, deep))
			}
			clause.kids = append(clause.kids, term())
			x.kids = append(x.kids, clause)
		}
	}
	return x
}

var levelPieces = regexp.MustCompile(`[(),+]|[^(),+]+`)

func slowLevelTokens(l impl.Level) string {
	return strings.Join(levelPieces.FindAllString(impl.LevelText(l), -1), " ")
}

// slowPrint is the text of a form, with one blank between tokens.
func slowPrint(x surf) string {
	kid := func(i int) string { return slowPrint(x.kids[i]) }
	switch x.K {
	case impl.FormFile:
		text := ""
		for i := range x.kids {
			text += kid(i) + "\n"
		}
		return text
	case impl.FormAxiom:
		return slowHead("axiom", x)
	case impl.FormDef:
		return slowHead("def", x) + " := " + kid(1)
	case impl.FormTheorem:
		return slowHead("theorem", x) + " := " + kid(1)
	case impl.FormInstance:
		return slowHead("instance", x) + " := " + kid(1)
	case impl.FormScript:
		return slowHead("theorem", x) + " by " + slowJoin(x.kids[1:], " ; ")
	case impl.FormFamily:
		return slowHead("family", x) + slowBars(x.kids[1:])
	case impl.FormClass:
		return slowHead("class", x) + slowBars(x.kids[1:])
	case impl.FormClauses:
		return slowHead("def", x) + slowBars(x.kids[1:])
	case impl.FormCtor:
		return x.S + " : " + kid(0)
	case impl.FormClause:
		last := len(x.kids) - 1
		return slowJoin(x.kids[:last], " , ") + " => " + kid(last)
	case impl.FormQuot:
		return "quotient"
	case impl.FormEval:
		return "eval " + kid(0)
	case impl.FormCheck:
		return "check " + kid(0)
	case impl.FormPattern:
		text := x.S
		for i, part := range x.kids {
			if len(part.kids) > 0 {
				text += " ( " + kid(i) + " )"
			} else {
				text += " " + kid(i)
			}
		}
		return text
	}
	if x.K >= impl.FormIntro {
		return slowPrintTactic(x)
	}
	return slowPrintTerm(x)
}

func slowJoin(list []surf, between string) string {
	var texts []string
	for _, x := range list {
		texts = append(texts, slowPrint(x))
	}
	return strings.Join(texts, between)
}

func slowBars(list []surf) string {
	text := ""
	for _, x := range list {
		text += " | " + slowPrint(x)
	}
	return text
}

func slowHead(word string, x surf) string {
	text := word + " " + x.S
	if len(x.Names) > 0 {
		text += " .{ " + strings.Join(x.Names, " , ") + " }"
	}
	if x.N != 0 {
		text += " " + strconv.Itoa(x.N)
	}
	return text + " : " + slowPrint(x.kids[0])
}

func slowPrintTactic(x surf) string {
	switch x.K {
	case impl.FormIntro:
		return "intro " + x.S
	case impl.FormExact:
		return "exact " + slowPrint(x.kids[0])
	case impl.FormApply:
		return "apply " + slowPrint(x.kids[0])
	case impl.FormRewrite:
		return []string{"rewrite ", "rewrite <- "}[x.M] + slowPrint(x.kids[0])
	case impl.FormInduction:
		return "induction " + x.S
	case impl.FormCases:
		return "cases " + x.S
	case impl.FormAssumption:
		return "assumption"
	case impl.FormRefl:
		return "refl"
	case impl.FormConstructor:
		return "constructor"
	}
	return "have " + x.S + " : " + slowPrint(x.kids[0]) + " := " + slowPrint(x.kids[1])
}

func slowPrintTerm(x surf) string {
	part := func(i int) string {
		p := x.kids[i]
		alone := slices.Contains([]int{1, 2, 3, 8, 9, 10}, p.K) || i == 0 && x.K == impl.FormApp && p.K == impl.FormApp
		if alone {
			return slowPrint(p)
		}
		return "( " + slowPrint(p) + " )"
	}
	switch x.K {
	case impl.FormName:
		text := []string{"", "@ "}[x.M] + x.S
		for i, l := range x.Levels {
			text += []string{" .{ ", " , "}[min(i, 1)] + slowLevelTokens(l)
		}
		if len(x.Levels) > 0 {
			text += " }"
		}
		return text
	case impl.FormSort:
		if sameNodes(x.Levels[0], zero()) {
			return "Prop"
		}
		return "Sort ( " + slowLevelTokens(x.Levels[0]) + " )"
	case impl.FormApp:
		return part(0) + " " + part(1)
	case impl.FormFun, impl.FormAll:
		brackets := []string{"( %s )", "{ %s }", "[ %s ]"}[x.M]
		bound := strings.Replace(brackets, "%s", x.S+" : "+slowPrint(x.kids[0]), 1)
		if x.K == impl.FormFun {
			return "fun " + bound + " => " + slowPrint(x.kids[1])
		}
		return "forall " + bound + " , " + slowPrint(x.kids[1])
	case impl.FormLet:
		return "let " + x.S + " : " + slowPrint(x.kids[0]) + " := " + slowPrint(x.kids[1]) + " ; " + slowPrint(x.kids[2])
	case impl.FormNumber:
		return strconv.Itoa(x.N)
	case impl.FormProj:
		return part(0) + " . " + strconv.Itoa(x.N)
	case impl.FormOf:
		return "( " + slowPrint(x.kids[0]) + " : " + slowPrint(x.kids[1]) + " )"
	}
	return "_"
}

func TestPrintByHand(t *testing.T) {
	x, y, tt := surfName("x"), surfName("y"), surfName("T")
	u := param("u")
	sort := func(l impl.Level) surf { return surfForm(impl.Form{K: impl.FormSort, Levels: []impl.Level{l}}) }
	app := func(f, a surf) surf { return surfKind(impl.FormApp, f, a) }
	bound := func(kind, mode int) surf { return surfForm(impl.Form{K: kind, S: "x", M: mode}, tt, x) }
	proj := func(n int, t surf) surf { return surfForm(impl.Form{K: impl.FormProj, N: n}, t) }
	for _, c := range []struct {
		tree surf
		want string
	}{
		{x, "x"},
		{surfName("a.b"), "a.b"},
		{surfForm(impl.Form{K: impl.FormName, S: "x", M: 1}), "@ x"},
		{surfForm(impl.Form{K: impl.FormName, S: "x", Levels: []impl.Level{u}}), "x .{ u }"},
		{surfForm(impl.Form{K: impl.FormName, S: "a.b", M: 1, Levels: []impl.Level{zero(), succ(u, 2), pair(impl.LevelMax, succ(u, 1), zero())}}), "@ a.b .{ 0 , u + 2 , max ( u + 1 , 0 ) }"},
		{surfKind(impl.FormOpen), "_"},
		{sort(zero()), "Prop"},
		{sort(succ(zero(), 1)), "Sort ( 1 )"},
		{sort(succ(zero(), 63)), "Sort ( 63 )"},
		{sort(u), "Sort ( u )"},
		{sort(succ(u, 2)), "Sort ( u + 2 )"},
		{sort(pair(impl.LevelMax, zero(), zero())), "Sort ( max ( 0 , 0 ) )"},
		{sort(succ(pair(impl.LevelImax, u, succ(param("v"), 1)), 3)), "Sort ( imax ( u , v + 1 ) + 3 )"},
		{surfKind(impl.FormNumber), "0"},
		{surfForm(impl.Form{K: impl.FormNumber, N: 100}), "100"},
		{app(x, y), "x y"},
		{app(app(x, y), tt), "x y T"},
		{app(x, app(y, tt)), "x ( y T )"},
		{app(app(x, y), app(x, y)), "x y ( x y )"},
		{app(surfKind(impl.FormOpen), surfKind(impl.FormNumber)), "_ 0"},
		{app(sort(zero()), sort(u)), "Prop Sort ( u )"},
		{app(proj(1, x), proj(2, y)), "x . 1 y . 2"},
		{app(surfKind(impl.FormOf, x, tt), surfKind(impl.FormOf, y, tt)), "( x : T ) ( y : T )"},
		{app(bound(impl.FormFun, 0), bound(impl.FormAll, 0)), "( fun ( x : T ) => x ) ( forall ( x : T ) , x )"},
		{app(surfNamed(impl.FormLet, "x", tt, y, x), surfNamed(impl.FormLet, "_", tt, y, x)), "( let x : T := y ; x ) ( let _ : T := y ; x )"},
		{bound(impl.FormFun, 0), "fun ( x : T ) => x"},
		{bound(impl.FormFun, 1), "fun { x : T } => x"},
		{bound(impl.FormFun, 2), "fun [ x : T ] => x"},
		{bound(impl.FormAll, 0), "forall ( x : T ) , x"},
		{bound(impl.FormAll, 1), "forall { x : T } , x"},
		{bound(impl.FormAll, 2), "forall [ x : T ] , x"},
		{surfNamed(impl.FormFun, "_", surfKind(impl.FormOpen), bound(impl.FormFun, 1)), "fun ( _ : _ ) => fun { x : T } => x"},
		{surfNamed(impl.FormAll, "_", bound(impl.FormAll, 0), app(x, y)), "forall ( _ : forall ( x : T ) , x ) , x y"},
		{surfNamed(impl.FormLet, "x", surfKind(impl.FormOpen), bound(impl.FormFun, 0), bound(impl.FormAll, 0)), "let x : _ := fun ( x : T ) => x ; forall ( x : T ) , x"},
		{proj(1, x), "x . 1"},
		{proj(999, proj(2, x)), "x . 2 . 999"},
		{proj(1, app(x, y)), "( x y ) . 1"},
		{proj(1, bound(impl.FormFun, 0)), "( fun ( x : T ) => x ) . 1"},
		{proj(1, sort(u)), "Sort ( u ) . 1"},
		{proj(1, surfKind(impl.FormOf, x, tt)), "( x : T ) . 1"},
		{proj(1, surfForm(impl.Form{K: impl.FormNumber, N: 3})), "3 . 1"},
		{surfKind(impl.FormOf, bound(impl.FormFun, 0), bound(impl.FormAll, 0)), "( fun ( x : T ) => x : forall ( x : T ) , x )"},
		{surfKind(impl.FormOf, surfKind(impl.FormOf, x, y), app(x, y)), "( ( x : y ) : x y )"},
		{app(app(surfName("Add.add"), x), y), "Add.add x y"},
		{surfNamed(impl.FormAll, "_", x, y), "forall ( _ : x ) , y"},
	} {
		holdPrint(t, c.tree.tree(), c.want)
	}
}

func TestPrintFilesByHand(t *testing.T) {
	x, tt := surfName("x"), surfName("T")
	p := func(s string, kids ...surf) surf { return surfNamed(impl.FormPattern, s, kids...) }
	headed := func(kind int, n int, names []string, kids ...surf) surf {
		return surfForm(impl.Form{K: kind, S: "f", N: n, Names: names}, kids...)
	}
	script := func(tactics ...surf) surf {
		return surfNamed(impl.FormScript, "t", append([]surf{tt}, tactics...)...)
	}
	ctor := surfNamed(impl.FormCtor, "c.d", x)
	clause := func(kids ...surf) surf { return surfKind(impl.FormClause, kids...) }
	for _, c := range []struct {
		commands []surf
		want     string
	}{
		{nil, ""},
		{[]surf{surfKind(impl.FormQuot)}, "quotient\n"},
		{[]surf{surfKind(impl.FormQuot), surfKind(impl.FormEval, x), surfKind(impl.FormCheck, tt)}, "quotient\neval x\ncheck T\n"},
		{[]surf{headed(impl.FormAxiom, 0, nil, tt)}, "axiom f : T\n"},
		{[]surf{headed(impl.FormAxiom, 0, []string{"u"}, tt)}, "axiom f .{ u } : T\n"},
		{[]surf{headed(impl.FormDef, 0, []string{"u", "v"}, tt, x)}, "def f .{ u , v } : T := x\n"},
		{[]surf{headed(impl.FormTheorem, 0, nil, tt, x)}, "theorem f : T := x\n"},
		{[]surf{headed(impl.FormInstance, 0, nil, tt, x)}, "instance f : T := x\n"},
		{[]surf{headed(impl.FormFamily, 0, nil, tt)}, "family f : T\n"},
		{[]surf{headed(impl.FormFamily, 1, []string{"u"}, tt, ctor)}, "family f .{ u } 1 : T | c.d : x\n"},
		{[]surf{headed(impl.FormFamily, 50, nil, tt, ctor, ctor)}, "family f 50 : T | c.d : x | c.d : x\n"},
		{[]surf{headed(impl.FormClass, 0, nil, tt, ctor)}, "class f : T | c.d : x\n"},
		{[]surf{headed(impl.FormClass, 7, nil, tt, ctor)}, "class f 7 : T | c.d : x\n"},
		{[]surf{headed(impl.FormClauses, 0, nil, tt, clause(p("y"), x))}, "def f : T | y => x\n"},
		{[]surf{headed(impl.FormClauses, 2, []string{"u"}, tt, clause(p("y"), surfKind(impl.FormAny), x), clause(surfKind(impl.FormAny), x))}, "def f .{ u } 2 : T | y , _ => x | _ => x\n"},
		{[]surf{headed(impl.FormClauses, 0, nil, tt, clause(p("c", p("y"), surfKind(impl.FormAny)), p("d", p("c", p("y")), p("c")), x))}, "def f : T | c y _ , d ( c y ) c => x\n"},
		{[]surf{headed(impl.FormClauses, 0, nil, tt, clause(p("Nat.succ", p("Nat.succ", p("Nat.zero"))), x))}, "def f : T | Nat.succ ( Nat.succ Nat.zero ) => x\n"},
		{[]surf{script(surfNamed(impl.FormIntro, "x"))}, "theorem t : T by intro x\n"},
		{[]surf{script(surfNamed(impl.FormInduction, "_"), surfNamed(impl.FormCases, "y"))}, "theorem t : T by induction _ ; cases y\n"},
		{[]surf{script(surfKind(impl.FormExact, x), surfKind(impl.FormApply, tt), surfKind(impl.FormRewrite, x), surfForm(impl.Form{K: impl.FormRewrite, M: 1}, x))}, "theorem t : T by exact x ; apply T ; rewrite x ; rewrite <- x\n"},
		{[]surf{script(surfKind(impl.FormAssumption), surfKind(impl.FormRefl), surfKind(impl.FormConstructor), surfNamed(impl.FormHave, "x", tt, x))}, "theorem t : T by assumption ; refl ; constructor ; have x : T := x\n"},
		{[]surf{script(surfKind(impl.FormExact, surfNamed(impl.FormLet, "y", tt, x, x)), surfKind(impl.FormRefl))}, "theorem t : T by exact let y : T := x ; x ; refl\n"},
	} {
		holdPrint(t, surfKind(impl.FormFile, c.commands...).tree(), c.want)
	}
}

// Promise 15 over drawn trees, whose texts are written by the slow way, too.
func TestPrintDrawnTrees(t *testing.T) {
	t.Parallel()
	r := rand.New(rand.NewSource(145))
	long := 0
	for range 20000 {
		x := randomSurf(r, r.Intn(5))
		tree := x.tree()
		want := slowPrint(x)
		text, ok := impl.Print(tree)
		if ok != (len(want) <= impl.MaxSource) || ok && string(text) != want || !ok && len(text) != 0 {
			t.Fatalf("%v %q, not %q", ok, text, want)
		}
		if !ok {
			long++
			continue
		}
		holdReadAgain(t, tree)
	}
	t.Logf("%d texts were too long", long)
}

func TestPrintWrongTrees(t *testing.T) {
	for _, tree := range []impl.Tree{
		{}, surfKind(impl.FormQuot).tree(), surfKind(impl.FormClause, surfKind(impl.FormAny), surfName("x")).tree(), surfName("").tree(), surfName("fun").tree(), surfName("_").tree(),
		surfKind(impl.FormApp, surfName("x")).tree(), {Forms: []impl.Form{{K: impl.FormApp, Kids: []int{0, 1}}}}, {Forms: []impl.Form{{K: impl.FormProj, N: 1, Kids: []int{0}}}}, {Forms: []impl.Form{{K: impl.FormProj, N: 1, Kids: []int{-1}}}}, {Forms: []impl.Form{{K: impl.FormProj, N: 1, Kids: []int{1 << 62}}}},
		surfKind(impl.FormSort).tree(), surfForm(impl.Form{K: impl.FormSort, Levels: []impl.Level{{}}}).tree(), surfKind(0).tree(), surfKind(99).tree(), surfNamed(impl.FormFun, "a.b", surfName("x"), surfName("x")).tree(),
		surfForm(impl.Form{K: impl.FormFun, S: "x", M: 3}, surfName("x"), surfName("x")).tree(), surfForm(impl.Form{K: impl.FormFun, S: "x", M: -1}, surfName("x"), surfName("x")).tree(),
	} {
		text, ok := impl.Print(tree)
		if ok || len(text) != 0 || impl.TreeOk(tree) {
			t.Errorf("%v: %q", tree, text)
		}
	}
}
