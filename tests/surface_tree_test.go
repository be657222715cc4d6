package tests

import (
	"math/rand"
	"regexp"
	"slices"
	"strings"
	"testing"

	"loop.example/g00005/impl"
)

// surfRow is a row of the document's table: what S is, the ranges of N and M,
// whether there are Names, how many Levels, and the kids as a pattern over the
// letters of surfLetters.
type surfRow struct {
	s           string
	leastN      int
	mostN       int
	mostM       int
	names       bool
	leastLevels int
	mostLevels  int
	kids        string
}

var surfTable = map[int]surfRow{
	impl.FormName:        {s: "name", mostM: 1, mostLevels: 6},
	impl.FormOpen:        {},
	impl.FormSort:        {leastLevels: 1, mostLevels: 1},
	impl.FormApp:         {kids: "TT"},
	impl.FormFun:         {s: "short", mostM: 2, kids: "TT"},
	impl.FormAll:         {s: "short", mostM: 2, kids: "TT"},
	impl.FormLet:         {s: "short", kids: "TTT"},
	impl.FormNumber:      {mostN: 100},
	impl.FormProj:        {leastN: 1, mostN: 999, kids: "T"},
	impl.FormOf:          {kids: "TT"},
	impl.FormAxiom:       {s: "name", names: true, kids: "T"},
	impl.FormDef:         {s: "name", names: true, kids: "TT"},
	impl.FormTheorem:     {s: "name", names: true, kids: "TT"},
	impl.FormScript:      {s: "name", names: true, kids: "Tt+"},
	impl.FormFamily:      {s: "name", names: true, mostN: 50, kids: "TK*"},
	impl.FormCtor:        {s: "name", kids: "T"},
	impl.FormClass:       {s: "name", names: true, mostN: 50, kids: "TK"},
	impl.FormInstance:    {s: "name", names: true, kids: "TT"},
	impl.FormQuot:        {},
	impl.FormEval:        {kids: "T"},
	impl.FormCheck:       {kids: "T"},
	impl.FormClauses:     {s: "name", names: true, mostN: 50, kids: "TC+"},
	impl.FormClause:      {kids: "P+T"},
	impl.FormPattern:     {s: "name", kids: "P*"},
	impl.FormAny:         {},
	impl.FormIntro:       {s: "short"},
	impl.FormExact:       {kids: "T"},
	impl.FormApply:       {kids: "T"},
	impl.FormRewrite:     {mostM: 1, kids: "T"},
	impl.FormInduction:   {s: "short"},
	impl.FormCases:       {s: "short"},
	impl.FormAssumption:  {},
	impl.FormRefl:        {},
	impl.FormConstructor: {},
	impl.FormHave:        {s: "short", kids: "TT"},
	impl.FormFile:        {kids: "D*"},
}

// surfKids are the kids of surfTable as patterns.
var surfKids = func() map[int]*regexp.Regexp {
	patterns := map[int]*regexp.Regexp{}
	for kind, row := range surfTable {
		patterns[kind] = regexp.MustCompile("^(" + row.kids + ")$")
	}
	return patterns
}()

// surfLetters has a letter for each kind: what it may stand as.
const surfLetters = "?TTTTTTTTTTDDDDDKDDDDDDCPPttttttttttF"

var (
	slowName  = regexp.MustCompile(`^[A-Za-z_][A-Za-z0-9_']*(\.[A-Za-z_][A-Za-z0-9_']*)*$`)
	slowShort = regexp.MustCompile(`^[A-Za-z_][A-Za-z0-9_']*$`)
)

func slowNameOk(kind string, s string) bool {
	switch kind {
	case "short":
		return len(s) <= 40 && slowShort.MatchString(s) && (s == "_" || !slices.Contains(surfWords, s))
	case "name":
		return len(s) <= 40 && slowName.MatchString(s) && !slices.Contains(surfWords, s)
	}
	return s == ""
}

func slowParamsOk(names []string) bool {
	for i, s := range names {
		if s == "_" || s == "max" || s == "imax" || !slowNameOk("short", s) || slices.Contains(names[:i], s) {
			return false
		}
	}
	return len(names) <= 6
}

func slowFormOk(f impl.Form, letters string) bool {
	row, ok := surfTable[f.K]
	if !ok || !slowNameOk(row.s, f.S) || f.N < row.leastN || f.N > row.mostN || f.M < 0 || f.M > row.mostM {
		return false
	}
	if len(f.Names) > 0 && !row.names || !slowParamsOk(f.Names) || len(f.Levels) < row.leastLevels || len(f.Levels) > row.mostLevels {
		return false
	}
	for _, l := range f.Levels {
		if !impl.LevelOk(l) {
			return false
		}
		for _, n := range l.Nodes {
			if slices.Contains(surfWords, n.S) {
				return false
			}
		}
	}
	return surfKids[f.K].MatchString(letters)
}

// slowTreeOk holds the forms against the table, and their order by the stretches.
func slowTreeOk(t impl.Tree) bool {
	if len(t.Forms) == 0 || len(t.Forms) > impl.MaxTrees {
		return false
	}
	var begins []int
	for i, f := range t.Forms {
		letters := ""
		begin := i
		for _, kid := range slices.Backward(f.Kids) {
			if kid < 0 || kid != begin-1 {
				return false
			}
			begin = begins[kid]
			letters = surfLetters[t.Forms[kid].K:t.Forms[kid].K+1] + letters
		}
		if !slowFormOk(f, letters) {
			return false
		}
		begins = append(begins, begin)
	}
	root := len(t.Forms) - 1
	letter := surfLetters[t.Forms[root].K]
	return begins[root] == 0 && (letter == 'T' || letter == 'F') && surfOf(t).tall() <= impl.MaxTall
}

// levelOfParams has so many different parameters.
func levelOfParams(count int) impl.Level {
	l := zero()
	for i := range count {
		l = pair(impl.LevelMax, l, param("abcdefghij"[i:i+1]))
	}
	return l
}

// surfSamples are forms of every kind, each as small as can be.
func surfSamples() map[int]surf {
	x := surfName("x")
	p := surfNamed(impl.FormPattern, "p")
	samples := map[int]surf{
		impl.FormSort:     surfForm(impl.Form{K: impl.FormSort, Levels: []impl.Level{param("u")}}),
		impl.FormProj:     surfForm(impl.Form{K: impl.FormProj, N: 1}, x),
		impl.FormScript:   surfNamed(impl.FormScript, "x", x, surfKind(impl.FormRefl)),
		impl.FormClass:    surfNamed(impl.FormClass, "x", x, surfNamed(impl.FormCtor, "x", x)),
		impl.FormFamily:   surfNamed(impl.FormFamily, "x", x),
		impl.FormClause:   surfKind(impl.FormClause, p, x),
		impl.FormClauses:  surfNamed(impl.FormClauses, "x", x, surfKind(impl.FormClause, p, x)),
		impl.FormPattern:  p,
		impl.FormFile:     surfKind(impl.FormFile),
		impl.FormName:     x,
		impl.FormRewrite:  surfKind(impl.FormRewrite, x),
		impl.FormAny:      surfKind(impl.FormAny),
		impl.FormNumber:   surfKind(impl.FormNumber),
		impl.FormInstance: surfNamed(impl.FormInstance, "x", x, x),
	}
	for kind, row := range surfTable {
		if _, ok := samples[kind]; ok {
			continue
		}
		sample := surfKind(kind)
		if row.s != "" {
			sample.S = "x"
		}
		for range strings.Count(row.kids, "T") {
			sample.kids = append(sample.kids, x)
		}
		samples[kind] = sample
	}
	return samples
}

// inPlace puts a form where it may stand, in a tree that is valid when it is.
func inPlace(x surf) surf {
	t := surfName("T")
	switch surfLetters[x.K] {
	case 'D':
		return surfKind(impl.FormFile, x)
	case 'K':
		return surfKind(impl.FormFile, surfNamed(impl.FormFamily, "F", t, x))
	case 'C':
		return surfKind(impl.FormFile, surfNamed(impl.FormClauses, "f", t, x))
	case 'P':
		return surfKind(impl.FormFile, surfNamed(impl.FormClauses, "f", t, surfKind(impl.FormClause, x, t)))
	case 't':
		return surfKind(impl.FormFile, surfNamed(impl.FormScript, "f", t, x))
	}
	return x
}

func holdTreeOk(t *testing.T, tree impl.Tree) bool {
	t.Helper()
	ok := impl.TreeOk(tree)
	if ok != slowTreeOk(tree) {
		t.Fatalf("TreeOk is %v of %v", ok, tree)
	}
	if _, printed := impl.Print(tree); printed && !ok {
		t.Fatalf("Print of %v", tree)
	}
	if impl.SameTree(tree, tree) != ok {
		t.Fatalf("SameTree of %v with itself", tree)
	}
	return ok
}

func TestTreeOkEachKind(t *testing.T) {
	for kind, sample := range surfSamples() {
		if sample.K != kind || !holdTreeOk(t, inPlace(sample).tree()) {
			t.Errorf("kind %d: %s", kind, inPlace(sample).spelt())
		}
		// As the root.
		isRoot := kind <= impl.FormOf || kind == impl.FormFile
		if holdTreeOk(t, sample.tree()) != isRoot {
			t.Errorf("kind %d as the root", kind)
		}
		// At of any number.
		for _, at := range []int{-1, 1, 1 << 62, -1 << 63} {
			changed := inPlace(sample).tree()
			for i := range changed.Forms {
				changed.Forms[i].At = at
			}
			if !holdTreeOk(t, changed) || !impl.SameTree(changed, inPlace(sample).tree()) {
				t.Errorf("kind %d with At %d", kind, at)
			}
		}
	}
	for _, kind := range []int{-1, 0, 37, 38, 1 << 62, -1 << 63} {
		if impl.TreeOk(surfKind(kind).tree()) || impl.TreeOk(surfKind(impl.FormFile, surfKind(kind)).tree()) {
			t.Errorf("kind %d", kind)
		}
	}
	if impl.TreeOk(impl.Tree{}) || impl.SameTree(impl.Tree{}, impl.Tree{}) {
		t.Errorf("a tree without a form")
	}
}

// Each field of each kind takes what the table says, and nothing else.
func TestTreeOkFields(t *testing.T) {
	changes := map[string][]func(f *impl.Form){}
	for _, s := range []string{"", "x", "_", "a.b", "fun", "Prop", "check", "by", "max", "fun.x", "x'", "1", "a.", ".a", "a b", "x\n", strings.Repeat("a", 40), strings.Repeat("a", 41), strings.Repeat("a.", 19) + "bc", strings.Repeat("a.", 20) + "b"} {
		changes["S"] = append(changes["S"], func(f *impl.Form) { f.S = s })
	}
	for _, n := range []int{-1, 0, 1, 2, 3, 50, 51, 99, 100, 101, 999, 1000, 1 << 62, -1 << 63} {
		changes["N"] = append(changes["N"], func(f *impl.Form) { f.N = n })
		changes["M"] = append(changes["M"], func(f *impl.Form) { f.M = n })
	}
	for _, names := range [][]string{nil, {}, {"u"}, {"u", "v"}, {"u", "u"}, {"a", "b", "c", "d", "e", "f"}, {"a", "b", "c", "d", "e", "f", "g"}, {"a", "b", "c", "d", "e", "a"}, {""}, {"_"}, {"max"}, {"imax"}, {"a.b"}, {"fun"}, {"Sort"}, {"u", "_"}, {"u", "1"}, {strings.Repeat("a", 40)}, {strings.Repeat("a", 41)}, {"intro"}} {
		changes["Names"] = append(changes["Names"], func(f *impl.Form) { f.Names = names })
	}
	u := param("u")
	for _, levels := range [][]impl.Level{nil, {}, {zero()}, {u, u}, {u, u, u, u, u, u}, {u, u, u, u, u, u, u}, {param("_")}, {param("fun")}, {param("Prop")}, {param("max")}, {param("intro")}, {{}}, {succ(u, 63)}, {succ(u, 64)}, {u, param("by")}, {u, {}}, {pair(impl.LevelMax, u, param("Type"))}, {levelOfParams(6)}, {levelOfParams(7)}} {
		changes["Levels"] = append(changes["Levels"], func(f *impl.Form) { f.Levels = levels })
	}
	valid := 0
	for _, sample := range surfSamples() {
		for _, list := range changes {
			for _, change := range list {
				changed := sample
				change(&changed.Form)
				if holdTreeOk(t, inPlace(changed).tree()) {
					valid++
				}
			}
		}
	}
	if valid < 300 {
		t.Errorf("only %d were valid", valid)
	}
}

// Each kind in the place of each kid of each kind, and one kid more or less.
func TestTreeOkKids(t *testing.T) {
	samples := surfSamples()
	valid := 0
	for kind := impl.FormName; kind <= impl.FormFile; kind++ {
		for other := impl.FormName; other <= impl.FormFile; other++ {
			for at := range len(samples[kind].kids) + 1 {
				for _, instead := range []int{0, 1} {
					if at+instead > len(samples[kind].kids) {
						continue
					}
					changed := samples[kind]
					changed.kids = slices.Replace(slices.Clone(changed.kids), at, at+instead, samples[other])
					if holdTreeOk(t, inPlace(changed).tree()) {
						valid++
					}
				}
			}
		}
		for at := range samples[kind].kids {
			changed := samples[kind]
			changed.kids = slices.Delete(slices.Clone(changed.kids), at, at+1)
			holdTreeOk(t, inPlace(changed).tree())
		}
	}
	if valid < 300 {
		t.Errorf("only %d were valid", valid)
	}
	for _, text := range []string{"TTT", "PT", "PPT", "T", "P", "PTP", "TP", "PTT", "", "PPPPPPT"} {
		changed := surfKind(impl.FormClause)
		for _, letter := range text {
			changed.kids = append(changed.kids, map[rune]surf{'T': samples[impl.FormName], 'P': samples[impl.FormAny]}[letter])
		}
		holdTreeOk(t, inPlace(changed).tree())
	}
}

// Kids that are not where they should be.
func TestTreeOkPlaces(t *testing.T) {
	tree := surfKind(impl.FormFile,
		surfNamed(impl.FormDef, "f", surfKind(impl.FormApp, surfName("x"), surfName("y")), surfName("z")),
		surfKind(impl.FormEval, surfKind(impl.FormOf, surfName("a"), surfName("b")))).tree()
	if !holdTreeOk(t, tree) {
		t.Fatalf("not valid: %v", tree)
	}
	for i := range tree.Forms {
		for k := range tree.Forms[i].Kids {
			for place := -2; place < len(tree.Forms)+2; place++ {
				changed := copyTree(tree)
				changed.Forms[i].Kids[k] = place
				if holdTreeOk(t, changed) != (place == tree.Forms[i].Kids[k]) {
					t.Errorf("kid %d of %d at %d", k, i, place)
				}
			}
			for _, place := range []int{1 << 62, -1 << 63} {
				changed := copyTree(tree)
				changed.Forms[i].Kids[k] = place
				holdTreeOk(t, changed)
			}
		}
		holdTreeOk(t, impl.Tree{Forms: tree.Forms[:i]})
		holdTreeOk(t, impl.Tree{Forms: tree.Forms[i:]})
		changed := copyTree(tree)
		changed.Forms[i].Kids = append(changed.Forms[i].Kids, i)
		holdTreeOk(t, changed)
		changed = copyTree(tree)
		changed.Forms = slices.Insert(changed.Forms, i, impl.Form{K: impl.FormOpen})
		holdTreeOk(t, changed)
	}
	holdTreeOk(t, impl.Tree{Forms: append(copyTree(tree).Forms, copyTree(tree).Forms...)})
}

func changeTree(r *rand.Rand, tree impl.Tree) impl.Tree {
	tree = copyTree(tree)
	f := &tree.Forms[r.Intn(len(tree.Forms))]
	other := copyTree(tree).Forms[r.Intn(len(tree.Forms))]
	switch r.Intn(9) {
	case 0:
		f.K = r.Intn(38)
	case 1:
		f.N += r.Intn(5) - 2
	case 2:
		f.M += r.Intn(3) - 1
	case 3:
		f.S = []string{"", "x", "_", "a.b", "fun", "by", "1", other.S}[r.Intn(8)]
	case 4:
		f.Names = append(f.Names, []string{"u", "_", "max", "w", "let"}[r.Intn(5)])
	case 5:
		f.Levels = append(f.Levels, []impl.Level{zero(), {}, param("_"), param("u")}[r.Intn(4)])
	case 6:
		f.K, f.S, f.N, f.M, f.Names, f.Levels = other.K, other.S, other.N, other.M, other.Names, other.Levels
	case 7:
		f.At = r.Intn(100)
	case 8:
		if len(f.Kids) > 0 {
			f.Kids[r.Intn(len(f.Kids))] += r.Intn(3) - 1
		}
	}
	return tree
}

func TestTreeOkChangedTrees(t *testing.T) {
	t.Parallel()
	r := rand.New(rand.NewSource(144))
	valid, same := 0, 0
	for range 20000 {
		tree := randomSurf(r, 1+r.Intn(4)).tree()
		if !holdTreeOk(t, tree) {
			t.Fatalf("a drawn tree is not valid: %v", tree)
		}
		changed := changeTree(r, tree)
		ok := holdTreeOk(t, changed)
		alike := ok && equalTrees(tree, changed, false)
		if impl.SameTree(tree, changed) != alike || impl.SameTree(changed, tree) != alike {
			t.Fatalf("SameTree is not %v of\n%v and\n%v", alike, tree, changed)
		}
		if ok {
			valid++
		}
		if alike {
			same++
		}
	}
	if valid < 2000 || same < 1000 || same > valid-1000 {
		t.Errorf("%d valid, %d the same", valid, same)
	}
}

func TestSameTreeByHand(t *testing.T) {
	sort := func(l impl.Level) impl.Tree {
		return surfForm(impl.Form{K: impl.FormSort, Levels: []impl.Level{l}}).tree()
	}
	u, v := param("u"), param("v")
	trees := []impl.Tree{
		surfName("x").tree(), surfName("y").tree(), surfForm(impl.Form{K: impl.FormName, S: "x", M: 1}).tree(),
		surfForm(impl.Form{K: impl.FormName, S: "x", Levels: []impl.Level{u}}).tree(), surfForm(impl.Form{K: impl.FormName, S: "x", Levels: []impl.Level{v}}).tree(),
		sort(u), sort(zero()), sort(pair(impl.LevelMax, u, v)), sort(pair(impl.LevelMax, v, u)), sort(pair(impl.LevelMax, u, u)), sort(pair(impl.LevelImax, u, v)),
		surfKind(impl.FormApp, surfName("x"), surfName("y")).tree(), surfKind(impl.FormOf, surfName("x"), surfName("y")).tree(), surfKind(impl.FormApp, surfName("y"), surfName("x")).tree(),
		surfNamed(impl.FormFun, "x", surfName("x"), surfName("y")).tree(), surfNamed(impl.FormFun, "y", surfName("x"), surfName("y")).tree(), surfForm(impl.Form{K: impl.FormFun, S: "x", M: 1}, surfName("x"), surfName("y")).tree(), surfNamed(impl.FormAll, "x", surfName("x"), surfName("y")).tree(),
		surfKind(impl.FormNumber).tree(), surfForm(impl.Form{K: impl.FormNumber, N: 1}).tree(), surfKind(impl.FormFile).tree(), surfKind(impl.FormFile, surfKind(impl.FormQuot)).tree(),
		surfKind(impl.FormApp, surfKind(impl.FormApp, surfName("x"), surfName("y")), surfName("z")).tree(), surfKind(impl.FormApp, surfName("x"), surfKind(impl.FormApp, surfName("y"), surfName("z"))).tree(),
		surfKind(impl.FormFile, surfForm(impl.Form{K: impl.FormAxiom, S: "a", Names: []string{"u", "v"}}, surfName("x"))).tree(), surfKind(impl.FormFile, surfForm(impl.Form{K: impl.FormAxiom, S: "a", Names: []string{"v", "u"}}, surfName("x"))).tree(),
		impl.Tree{}, surfKind(impl.FormQuot).tree(), surfName("_").tree(), sort(impl.Level{}),
	}
	for i, a := range trees {
		for j, b := range trees {
			want := i == j && i < len(trees)-4
			if impl.SameTree(a, copyTree(b)) != want {
				t.Errorf("%d and %d: not %v", i, j, want)
			}
		}
	}
}
