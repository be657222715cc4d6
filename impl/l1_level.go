package impl

import (
	"slices"
	"strconv"
	"strings"
)

const CodeInput = 1
const CodeFuel = 2
const CodeSize = 3
const CodeText = 4
const CodeConst = 11
const CodeLevel = 12
const CodeFun = 13
const CodeArg = 14
const CodeSort = 15
const CodeProj = 16
const CodeHole = 17
const CodeName = 20
const CodeFamily = 21
const CodeCtor = 22
const CodePositive = 23
const CodeUniverse = 24
const CodeProp = 25
const CodeQuot = 26
const CodeSum = 27
const CodeUnify = 30
const CodeOpen = 31
const CodeClass = 32
const CodeMissing = 33
const CodeUnused = 34
const CodeCall = 35
const CodePattern = 36
const CodeTactic = 37
const CodeGoals = 38

const MaxFuel = 100000
const MaxLevel = 64
const MaxParams = 6
const MaxName = 40
const MaxValue = 1000000
const MaxLevelText = 3000

const LevelZero = 1
const LevelSucc = 2
const LevelMax = 3
const LevelImax = 4
const LevelParam = 5

// How many digits a number in a level's text has at least and at most.
const (
	leastDigits = 1 + 3*iota
	mostDigits
)

// What LevelSign says of a level's number.
const (
	signNeverZero = iota
	signAlwaysZero
	signMayBeZero
	signNone = -1
)

// What is supposed of a parameter's value while two levels are compared.
const (
	valueAny = iota
	valueZero
	valuePositive
)

// LNode is one node of a level; its kids are places in front of it.
type LNode struct {
	K    int
	S    string
	Kids []int
}

// Level is a list of nodes, kids first, the root last.
type Level struct {
	Nodes []LNode
}

// levelTree is a level by its parts; it is made of valid levels and of texts
// only, so that nothing that walks it has to look at its shape again.
type levelTree interface {
	size() int
	write(nodes []LNode) []LNode
}

type zeroLevel struct{}

// succLevel keeps how many LevelSuccs stand around, at least one of them, and
// never around another succLevel: a text may ask for more than memory holds.
type succLevel struct {
	times int
	of    levelTree
}

type maxLevel struct {
	a, b levelTree
}

type imaxLevel struct {
	a, b levelTree
}

type paramLevel struct {
	name string
}

func (zeroLevel) size() int { return 1 }

func (x succLevel) size() int { return x.times + x.of.size() }

func (x maxLevel) size() int { return x.a.size() + x.b.size() + 1 }

func (x imaxLevel) size() int { return x.a.size() + x.b.size() + 1 }

func (paramLevel) size() int { return 1 }

func (zeroLevel) write(nodes []LNode) []LNode {
	return append(nodes, LNode{K: LevelZero})
}

func (x succLevel) write(nodes []LNode) []LNode {
	nodes = x.of.write(nodes)
	for range x.times {
		nodes = append(nodes, LNode{K: LevelSucc, Kids: []int{len(nodes) - 1}})
	}
	return nodes
}

func (x maxLevel) write(nodes []LNode) []LNode {
	return writePair(nodes, LevelMax, x.a, x.b)
}

func (x imaxLevel) write(nodes []LNode) []LNode {
	return writePair(nodes, LevelImax, x.a, x.b)
}

func (x paramLevel) write(nodes []LNode) []LNode {
	return append(nodes, LNode{K: LevelParam, S: x.name})
}

func writePair(nodes []LNode, kind int, a, b levelTree) []LNode {
	nodes = a.write(nodes)
	first := len(nodes) - 1
	nodes = b.write(nodes)
	return append(nodes, LNode{K: kind, Kids: []int{first, len(nodes) - 1}})
}

func isLetter(c byte) bool {
	return c >= 'a' && c <= 'z' || c >= 'A' && c <= 'Z'
}

func isDigit(c byte) bool {
	return c >= '0' && c <= '9'
}

func beginsName(c byte) bool {
	return isLetter(c) || c == '_'
}

func goesOnName(c byte) bool {
	return beginsName(c) || isDigit(c) || c == '\''
}

// NameOk says whether a text is a name.
func NameOk(name string) bool {
	if len(name) > MaxName {
		return false
	}
	for {
		short, rest, more := strings.Cut(name, ".")
		if !ShortOk(short) {
			return false
		}
		if !more {
			return true
		}
		name = rest
	}
}

// ShortOk says whether a text is a short name.
func ShortOk(name string) bool {
	if len(name) == 0 || len(name) > MaxName || !beginsName(name[0]) {
		return false
	}
	for i := range len(name) {
		if !goesOnName(name[i]) {
			return false
		}
	}
	return true
}

// paramNameOk leaves out the two names that begin a level of two parts.
func paramNameOk(name string) bool {
	return ShortOk(name) && name != "max" && name != "imax"
}

// joinKids goes along a list of nodes that should stand kids first. It is given
// the roots, from the left, of the stretches that have no parent yet, a place,
// and the kids of the node there with how many it should have, below 0 for what
// is no node; it gives the roots with this node among them, or false.
func joinKids(roots []int, place int, kids []int, want int) ([]int, bool) {
	first := len(roots) - want
	if want < 0 || first < 0 || !slices.Equal(kids, roots[first:]) {
		return nil, false
	}
	return append(roots[:first], place), true
}

// LevelOk says whether a level is valid.
func LevelOk(l Level) bool {
	if len(l.Nodes) > MaxLevel {
		return false
	}
	ok := true
	roots := make([]int, 0, MaxLevel)
	for i, node := range l.Nodes {
		roots, ok = joinKids(roots, i, node.Kids, levelKids(node.K))
		if !ok || !levelFieldsOk(node) {
			return false
		}
	}
	return len(roots) == 1 && fewParams(l)
}

// levelKids is the number of kids of a node of a kind, -1 for no kind.
func levelKids(kind int) int {
	switch kind {
	case LevelZero, LevelParam:
		return 0
	case LevelSucc:
		return 1
	case LevelMax, LevelImax:
		return 2
	}
	return -1
}

func levelFieldsOk(node LNode) bool {
	if node.K == LevelParam {
		return paramNameOk(node.S)
	}
	return node.S == ""
}

// fewParams counts on an array, for it is asked of every level that comes in.
func fewParams(l Level) bool {
	var seen [MaxParams]string
	count := 0
	for _, node := range l.Nodes {
		if node.K != LevelParam || slices.Contains(seen[:count], node.S) {
			continue
		}
		if count == MaxParams {
			return false
		}
		seen[count] = node.S
		count++
	}
	return true
}

// levelParams gives the names of a level's parameters, each once.
func levelParams(l Level) []string {
	var names []string
	for _, node := range l.Nodes {
		if node.K == LevelParam && !slices.Contains(names, node.S) {
			names = append(names, node.S)
		}
	}
	return names
}

// levelTreeOf is for valid levels only.
func levelTreeOf(l Level) levelTree {
	trees := make([]levelTree, len(l.Nodes))
	for i, node := range l.Nodes {
		switch node.K {
		case LevelZero:
			trees[i] = zeroLevel{}
		case LevelSucc:
			trees[i] = succAround(trees[node.Kids[0]], 1)
		case LevelMax:
			trees[i] = maxLevel{trees[node.Kids[0]], trees[node.Kids[1]]}
		case LevelImax:
			trees[i] = imaxLevel{trees[node.Kids[0]], trees[node.Kids[1]]}
		case LevelParam:
			trees[i] = paramLevel{node.S}
		}
	}
	return trees[len(trees)-1]
}

func levelOfTree(t levelTree) Level {
	return Level{Nodes: t.write(nil)}
}

func succAround(t levelTree, times int) levelTree {
	if times == 0 {
		return t
	}
	if x, ok := t.(succLevel); ok {
		return succLevel{x.times + times, x.of}
	}
	return succLevel{times, t}
}

// LevelText gives the text of a valid level, else the empty text.
func LevelText(l Level) string {
	if !LevelOk(l) {
		return ""
	}
	return levelTreeText(levelTreeOf(l))
}

func levelTreeText(t levelTree) string {
	switch x := t.(type) {
	case succLevel:
		if _, ok := x.of.(zeroLevel); ok {
			return strconv.Itoa(x.times)
		}
		return levelTreeText(x.of) + "+" + strconv.Itoa(x.times)
	case maxLevel:
		return "max(" + levelTreeText(x.a) + "," + levelTreeText(x.b) + ")"
	case imaxLevel:
		return "imax(" + levelTreeText(x.a) + "," + levelTreeText(x.b) + ")"
	case paramLevel:
		return x.name
	}
	return "0"
}

// ParseLevel reads a level's text; it gives the level and a code.
func ParseLevel(text string) (Level, int) {
	if len(text) > MaxLevelText {
		return Level{}, CodeText
	}
	in := readerOf(text)
	tree, ok := readLevel(in)
	if !ok || !in.atEnd() {
		return Level{}, CodeText
	}
	return sizedLevel(tree)
}

// sizedLevel counts ahead of writing: a tree of a short text may stand for
// millions of nodes.
func sizedLevel(t levelTree) (Level, int) {
	if t.size() > MaxLevel {
		return Level{}, CodeSize
	}
	l := levelOfTree(t)
	if !LevelOk(l) {
		return Level{}, CodeSize
	}
	return l, 0
}

// levelReader shares one place in a text among its functions.
type levelReader struct {
	atEnd func() bool
	take  func(c byte) bool
	span  func(fits func(c byte) bool) string
}

func readerOf(text string) levelReader {
	at := 0
	atEnd := func() bool { return at == len(text) }
	take := func(c byte) bool {
		if atEnd() || text[at] != c {
			return false
		}
		at++
		return true
	}
	span := func(fits func(c byte) bool) string {
		from := at
		for !atEnd() && fits(text[at]) {
			at++
		}
		return text[from:at]
	}
	return levelReader{atEnd, take, span}
}

func readLevel(in levelReader) (levelTree, bool) {
	tree, ok := readLevelBase(in)
	for ok && in.take('+') {
		var times int
		times, ok = decimal(in.span(isDigit), mostDigits)
		tree = succAround(tree, times)
	}
	return tree, ok
}

func readLevelBase(in levelReader) (levelTree, bool) {
	if digits := in.span(isDigit); digits != "" {
		times, ok := decimal(digits, mostDigits)
		return succAround(zeroLevel{}, times), ok
	}
	name := in.span(goesOnName)
	switch name {
	case "max":
		a, b, ok := readLevelPair(in)
		return maxLevel{a, b}, ok
	case "imax":
		a, b, ok := readLevelPair(in)
		return imaxLevel{a, b}, ok
	}
	return paramLevel{name}, ShortOk(name)
}

func readLevelPair(in levelReader) (levelTree, levelTree, bool) {
	if !in.take('(') {
		return nil, nil, false
	}
	a, ok := readLevel(in)
	if !ok || !in.take(',') {
		return nil, nil, false
	}
	b, ok := readLevel(in)
	return a, b, ok && in.take(')')
}

// decimal is 0 and false for what is no number of one digit up to so many.
func decimal(text string, longest int) (int, bool) {
	if len(text) < leastDigits || len(text) > longest {
		return 0, false
	}
	n := 0
	for i := range len(text) {
		if !isDigit(text[i]) {
			return 0, false
		}
		n = 10*n + int(text[i]-'0')
	}
	return n, true
}

// LevelValue gives the number of a level for values of its parameters.
func LevelValue(l Level, names []string, values []int) (int, bool) {
	if !LevelOk(l) || len(names) != len(values) {
		return 0, false
	}
	for _, value := range values {
		if value < 0 || value > MaxValue {
			return 0, false
		}
	}
	for _, name := range levelParams(l) {
		if !slices.Contains(names, name) {
			return 0, false
		}
	}
	return levelNumberAt(levelTreeOf(l), func(name string) int {
		return values[slices.Index(names, name)]
	}), true
}

func levelNumberAt(t levelTree, valueOf func(name string) int) int {
	switch x := t.(type) {
	case succLevel:
		return x.times + levelNumberAt(x.of, valueOf)
	case maxLevel:
		return max(levelNumberAt(x.a, valueOf), levelNumberAt(x.b, valueOf))
	case imaxLevel:
		b := levelNumberAt(x.b, valueOf)
		if b == 0 {
			return 0
		}
		return max(levelNumberAt(x.a, valueOf), b)
	case paramLevel:
		return valueOf(x.name)
	}
	return 0
}

// LevelLeq says whether a's number is at most b's for all values.
func LevelLeq(a Level, b Level) bool {
	return LevelOk(a) && LevelOk(b) && levelLeq(a, b)
}

// LevelSame says whether two levels have the same number for all values.
func LevelSame(a Level, b Level) bool {
	if !LevelOk(a) || !LevelOk(b) {
		return false
	}
	return sameNodes(a, b) || levelLeq(a, b) && levelLeq(b, a)
}

// sameNodes spares the cases below where levels are spelt alike, as most are.
func sameNodes(a Level, b Level) bool {
	return slices.EqualFunc(a.Nodes, b.Nodes, func(x, y LNode) bool {
		return x.K == y.K && x.S == y.S && slices.Equal(x.Kids, y.Kids)
	})
}

// levelLeq looks at each case of which parameters are 0, of those that decide
// whether some imax is 0: within a case both levels are a greatest one of sums,
// and these can be held against each other one by one. Numbers only grow with
// the values, so that b's other parameters are least, and worst, at 0.
func levelLeq(a Level, b Level) bool {
	names := levelParams(a)
	x, y := levelTreeOf(a), levelTreeOf(b)
	var deciding []int
	for i, name := range names {
		if decides(x, name) || decides(y, name) {
			deciding = append(deciding, i)
		}
	}
	for zeros := range 1 << len(deciding) {
		one := levelCase{names: names}
		for k, i := range deciding {
			one.values[i] = valuePositive
			if zeros>>k&1 == 1 {
				one.values[i] = valueZero
			}
		}
		if !sumsLeq(one.sums(x), one.sums(y)) {
			return false
		}
	}
	return true
}

// decides says whether a parameter stands in the second part of an imax.
func decides(t levelTree, name string) bool {
	switch x := t.(type) {
	case succLevel:
		return decides(x.of, name)
	case maxLevel:
		return decides(x.a, name) || decides(x.b, name)
	case imaxLevel:
		return decides(x.a, name) || hasParam(x.b, name)
	}
	return false
}

func hasParam(t levelTree, name string) bool {
	switch x := t.(type) {
	case succLevel:
		return hasParam(x.of, name)
	case maxLevel:
		return hasParam(x.a, name) || hasParam(x.b, name)
	case imaxLevel:
		return hasParam(x.a, name) || hasParam(x.b, name)
	case paramLevel:
		return x.name == name
	}
	return false
}

// levelCase says what is supposed of the values of the named parameters; any
// other parameter is 0.
type levelCase struct {
	names  []string
	values [MaxParams]int
}

// levelSums is a level within a case: the greatest of its least number and of
// each parameter with what stands on top of it, -1 where that one is missing.
type levelSums struct {
	least int
	tops  [MaxParams]int
}

func (c levelCase) sums(t levelTree) levelSums {
	switch x := t.(type) {
	case succLevel:
		return c.sums(x.of).plus(x.times)
	case maxLevel:
		return c.sums(x.a).join(c.sums(x.b))
	case imaxLevel:
		// Each parameter of the second part is 0 or positive here, so that its
		// least number is 0 only where it is always 0.
		b := c.sums(x.b)
		if b.least == 0 {
			return noSums()
		}
		return c.sums(x.a).join(b)
	case paramLevel:
		return c.paramSums(x.name)
	}
	return noSums()
}

func (c levelCase) paramSums(name string) levelSums {
	s := noSums()
	i := slices.Index(c.names, name)
	if i < 0 || c.values[i] == valueZero {
		return s
	}
	if c.values[i] == valuePositive {
		s.least = 1
	}
	s.tops[i] = 0
	return s
}

func noSums() levelSums {
	var s levelSums
	for i := range s.tops {
		s.tops[i] = -1
	}
	return s
}

func (s levelSums) plus(n int) levelSums {
	s.least += n
	for i, top := range s.tops {
		if top >= 0 {
			s.tops[i] += n
		}
	}
	return s
}

func (s levelSums) join(r levelSums) levelSums {
	s.least = max(s.least, r.least)
	for i, top := range r.tops {
		s.tops[i] = max(s.tops[i], top)
	}
	return s
}

// sumsLeq is exact: a parameter that grows without end leaves all but its own
// top behind, and with all of them least the least numbers are what counts.
func sumsLeq(a levelSums, b levelSums) bool {
	for i, top := range a.tops {
		if top > b.tops[i] {
			return false
		}
	}
	return a.least <= b.least
}

// levelMeaning is a text that valid levels have in common just where they are the
// same: the parameters that the number hangs on, and its sums in each case of
// which of these are 0.
func levelMeaning(l Level) string {
	tree, names := levelTreeOf(l), levelParams(l)
	slices.Sort(names)
	cases := allSums(tree, names)
	var used []string
	for i, name := range names {
		if hangsOn(cases, i) {
			used = append(used, name)
		}
	}
	var text strings.Builder
	for _, name := range used {
		text.WriteString(name + " ")
	}
	for _, sums := range allSums(tree, used) {
		text.WriteString(strconv.Itoa(sums.least) + " ")
		for _, top := range sums.tops[:len(used)] {
			text.WriteString(strconv.Itoa(top) + " ")
		}
	}
	return text.String()
}

// allSums are a level's sums in each case of which of the named parameters are
// positive: those whose bits the place of the case has.
func allSums(t levelTree, names []string) []levelSums {
	var list []levelSums
	for bits := range 1 << len(names) {
		one := levelCase{names: names}
		for i := range names {
			one.values[i] = valueZero
			if bits>>i&1 == 1 {
				one.values[i] = valuePositive
			}
		}
		list = append(list, one.sums(t))
	}
	return list
}

// hangsOn says whether it makes a difference in some case that a parameter is
// positive.
func hangsOn(cases []levelSums, param int) bool {
	for bits, sums := range cases {
		if sums != cases[bits|1<<param] {
			return true
		}
	}
	return false
}

// LevelSign says for which values a level's number is 0.
func LevelSign(l Level) int {
	if !LevelOk(l) {
		return signNone
	}
	// Numbers only grow with the values, and whether one is 0 hangs only on
	// which values are: all 0 and all 1 are the two ends.
	tree := levelTreeOf(l)
	if levelNumberAt(tree, func(string) int { return 0 }) > 0 {
		return signNeverZero
	}
	if levelNumberAt(tree, func(string) int { return 1 }) == 0 {
		return signAlwaysZero
	}
	return signMayBeZero
}

// LevelPut puts levels for parameters; it gives the level and a code.
func LevelPut(l Level, names []string, levels []Level) (Level, int) {
	if !LevelOk(l) || !namedLevelsOk(names, levels) {
		return Level{}, CodeInput
	}
	return putNamedLevels(l, names, levels)
}

func namedLevelsOk(names []string, levels []Level) bool {
	if len(names) != len(levels) {
		return false
	}
	for _, level := range levels {
		if !LevelOk(level) {
			return false
		}
	}
	return true
}

// putNamedLevels is for what has been found valid, so that a term with many
// levels asks only once.
func putNamedLevels(l Level, names []string, levels []Level) (Level, int) {
	return sizedLevel(putLevels(levelTreeOf(l), func(x paramLevel) levelTree {
		if i := slices.Index(names, x.name); i >= 0 {
			return levelTreeOf(levels[i])
		}
		return x
	}))
}

func putLevels(t levelTree, put func(x paramLevel) levelTree) levelTree {
	switch x := t.(type) {
	case succLevel:
		return succAround(putLevels(x.of, put), x.times)
	case maxLevel:
		return maxLevel{putLevels(x.a, put), putLevels(x.b, put)}
	case imaxLevel:
		return imaxLevel{putLevels(x.a, put), putLevels(x.b, put)}
	case paramLevel:
		return put(x)
	}
	return t
}
