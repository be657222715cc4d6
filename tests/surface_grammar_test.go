package tests

import (
	"regexp"
	"slices"
	"strings"

	"loop.example/g00005/impl"
)

// surfGrammar is the grammar of the document, with what is said of NAMEs, NUMBERs
// and levels below it in the names of its tokens.
const surfGrammar = `
file    = { command }
command = "axiom" head ":" term | "def" head ":" term ":=" term | "instance" head ":" term ":=" term
        | "theorem" head ":" term ":=" term | "theorem" head ":" term "by" tactic { ";" tactic }
        | "def" name [ FIXED ] ":" term clause { clause }
        | "family" name [ FIXED ] ":" term { "|" NAME ":" term } | "class" name [ FIXED ] ":" term "|" NAME ":" term
        | "quotient" | "eval" term | "check" term
head    = name { binder }
name    = NAME [ ".{" PARAM { COMMA PARAM } "}" ]
binder  = "(" SHORT { SHORT } ":" term ")" | "{" SHORT { SHORT } ":" term "}" | "[" SHORT { SHORT } ":" term "]"
clause  = "|" pattern { "," pattern } "=>" term
pattern = NAME { simple } | "_" | SMALL | "(" pattern ")"
simple  = NAME | "_" | SMALL | "(" pattern ")"
term    = "fun" ( binder | SHORT ) { binder | SHORT } "=>" term | "forall" binder { binder } "," term
        | "let" SHORT [ ":" term ] ":=" term ";" term | or [ "->" term ]
or      = and [ "\/" or ]
and     = eq [ "/\" and ]
eq      = sum [ "=" sum ]
sum     = times { "+" times }
times   = app { "*" app }
app     = post { post }
post    = atom { "." FIELD }
atom    = FREENAME [ levels ] | "@" NAME [ levels ] | "_" | FREESMALL | "Prop" | "Type" [ base ] | "Sort" base
        | FREEBRACKET term [ ":" term ] ")"
levels  = ".{" level { COMMA level } "}"
level   = base [ "+" NUMBER ]
base    = NUMBER | PAIRNAME "(" level "," level ")" | LEVELNAME | "(" level ")"
tactic  = "intro" SHORT | "exact" term | "apply" term | "rewrite" [ "<-" ] term | "induction" SHORT | "cases" SHORT
        | "assumption" | "refl" | "constructor" | "have" SHORT ":" term ":=" term
`

// tokenTest says whether the last of some tokens can be what is wanted there.
type tokenTest func(tokens []impl.Token) bool

func lastOf(tokens []impl.Token) impl.Token { return tokens[len(tokens)-1] }

// textBefore is the S of the token so many in front of the last one.
func textBefore(tokens []impl.Token, by int) string {
	if len(tokens) <= by {
		return ""
	}
	return tokens[len(tokens)-1-by].S
}

func isTokenName(tok impl.Token) bool { return tok.K == impl.TokName }

// notBase is false where the last token would be the base of a universe, or would
// make its name one of two levels.
func notBase(tokens []impl.Token) bool {
	before := textBefore(tokens, 1)
	if before == "Type" {
		return false
	}
	isUniverse := slices.Contains([]string{"Type", "Sort"}, textBefore(tokens, 2))
	return lastOf(tokens).S != "(" || !isUniverse || !isTokenName(tokens[len(tokens)-2])
}

// listedBefore are the tokens of a list of levels in front of the last token, and
// how many commas of the list itself are among them.
func listedBefore(tokens []impl.Token) ([]impl.Token, int) {
	depth, commas := 0, 0
	for i := len(tokens) - 2; ; i-- {
		switch tokens[i].S {
		case ".{":
			return tokens[i+1 : len(tokens)-1], commas
		case ")":
			depth++
		case "(":
			depth--
		case ",":
			if depth == 0 {
				commas++
			}
		}
	}
}

func numberUpTo(least, most int) tokenTest {
	return func(tokens []impl.Token) bool {
		tok := lastOf(tokens)
		return tok.K == impl.TokNumber && tok.N >= least && tok.N <= most
	}
}

func tokenTests() map[string]tokenTest {
	isPair := func(name string) bool { return name == "max" || name == "imax" }
	return map[string]tokenTest{
		"NAME": func(tokens []impl.Token) bool { return isTokenName(lastOf(tokens)) },
		"SHORT": func(tokens []impl.Token) bool {
			s := lastOf(tokens).S
			return s == "_" || isTokenName(lastOf(tokens)) && !strings.Contains(s, ".")
		},
		"PARAM": func(tokens []impl.Token) bool {
			tok := lastOf(tokens)
			list, _ := listedBefore(tokens)
			known := slices.ContainsFunc(list, func(x impl.Token) bool { return x.S == tok.S })
			return isTokenName(tok) && !strings.Contains(tok.S, ".") && !isPair(tok.S) && !known
		},
		"COMMA": func(tokens []impl.Token) bool {
			if lastOf(tokens).S != "," {
				return false
			}
			_, commas := listedBefore(tokens)
			return commas < impl.MaxParams-1
		},
		"FIXED":  numberUpTo(0, 50),
		"SMALL":  numberUpTo(0, impl.MaxNumber),
		"FIELD":  numberUpTo(1, 999),
		"NUMBER": numberUpTo(0, 999),
		"FREENAME": func(tokens []impl.Token) bool {
			return isTokenName(lastOf(tokens)) && notBase(tokens)
		},
		"FREESMALL": func(tokens []impl.Token) bool {
			return numberUpTo(0, impl.MaxNumber)(tokens) && notBase(tokens)
		},
		"FREEBRACKET": func(tokens []impl.Token) bool {
			return lastOf(tokens).S == "(" && notBase(tokens)
		},
		"PAIRNAME": func(tokens []impl.Token) bool { return isPair(lastOf(tokens).S) },
		"LEVELNAME": func(tokens []impl.Token) bool {
			tok := lastOf(tokens)
			return isTokenName(tok) && !strings.Contains(tok.S, ".") && !isPair(tok.S)
		},
	}
}

// earley is a grammar whose rules are rows of symbols. A symbol that has rules is
// one of these; each other one has a test.
type earley struct {
	rules map[string][][]string
	empty map[string]bool
	tests map[string]tokenTest
}

var grammarPieces = regexp.MustCompile(`"[^"]*"|[A-Za-z]+|[={}()|\[\]]`)

func newEarley(text string) *earley {
	g := &earley{rules: map[string][][]string{}, empty: map[string]bool{}, tests: tokenTests()}
	pieces := grammarPieces.FindAllString(text, -1)
	at := 0
	made := 0
	var sequences func(of string, end string)
	// group makes a symbol of its own for what stands in brackets.
	group := func(end string) string {
		made++
		symbol := "#" + strings.Repeat("'", made)
		sequences(symbol, end)
		return symbol
	}
	sequences = func(of string, end string) {
		var row []string
		for {
			piece := ""
			if at < len(pieces) {
				piece = pieces[at]
			}
			next := ""
			if at+1 < len(pieces) {
				next = pieces[at+1]
			}
			if piece == end || end == "" && (piece == "" || next == "=") {
				g.rules[of] = append(g.rules[of], row)
				at++
				return
			}
			at++
			switch piece {
			case "|":
				g.rules[of] = append(g.rules[of], row)
				row = nil
			case "(":
				row = append(row, group(")"))
			case "[":
				symbol := group("]")
				g.rules[symbol] = append(g.rules[symbol], nil)
				row = append(row, symbol)
			case "{":
				inside := group("}")
				many := inside + "*"
				g.rules[many] = [][]string{nil, {inside, many}}
				row = append(row, many)
			default:
				row = append(row, piece)
			}
		}
	}
	for at < len(pieces) {
		symbol := pieces[at]
		at += 2
		sequences(symbol, "")
		at--
	}
	g.findEmpty()
	return g
}

func (g *earley) findEmpty() {
	for changed := true; changed; {
		changed = false
		for symbol, rows := range g.rules {
			for _, row := range rows {
				full := slices.ContainsFunc(row, func(s string) bool { return !g.empty[s] })
				if !full && !g.empty[symbol] {
					g.empty[symbol] = true
					changed = true
				}
			}
		}
	}
}

// earleyItem is a rule of which some symbols have been met since a place.
type earleyItem struct {
	symbol string
	row    int
	met    int
	from   int
}

// earleyChart keeps what can be met behind each of some tokens.
type earleyChart struct {
	*earley
	start  string
	tokens []impl.Token
	sets   [][]earleyItem
}

func (g *earley) chart(start string) *earleyChart {
	c := &earleyChart{earley: g, start: start, sets: [][]earleyItem{nil}}
	for row := range g.rules[start] {
		c.sets[0] = append(c.sets[0], earleyItem{symbol: start, row: row})
	}
	c.close()
	return c
}

// close adds to the last set what its items begin and end.
func (c *earleyChart) close() {
	last := len(c.sets) - 1
	set := c.sets[last]
	known := map[earleyItem]bool{}
	for _, x := range set {
		known[x] = true
	}
	add := func(x earleyItem) {
		if !known[x] {
			known[x] = true
			set = append(set, x)
		}
	}
	for i := 0; i < len(set); i++ {
		x := set[i]
		row := c.rules[x.symbol][x.row]
		if x.met == len(row) {
			origin := set
			if x.from != last {
				origin = c.sets[x.from]
			}
			for _, y := range origin {
				outer := c.rules[y.symbol][y.row]
				if y.met < len(outer) && outer[y.met] == x.symbol {
					add(earleyItem{y.symbol, y.row, y.met + 1, y.from})
				}
			}
			continue
		}
		for next := range c.rules[row[x.met]] {
			add(earleyItem{symbol: row[x.met], row: next, from: last})
		}
		if c.empty[row[x.met]] {
			add(earleyItem{x.symbol, x.row, x.met + 1, x.from})
		}
	}
	c.sets[last] = set
}

// step is false for a token with which no text can go on; the chart stays as it is
// then.
func (c *earleyChart) step(tok impl.Token) bool {
	tokens := append(slices.Clip(c.tokens), tok)
	var next []earleyItem
	for _, x := range c.sets[len(c.sets)-1] {
		row := c.rules[x.symbol][x.row]
		if x.met < len(row) && c.fits(row[x.met], tokens) {
			next = append(next, earleyItem{x.symbol, x.row, x.met + 1, x.from})
		}
	}
	if len(next) == 0 {
		return false
	}
	c.tokens = tokens
	c.sets = append(slices.Clip(c.sets), next)
	c.close()
	return true
}

func (c *earleyChart) fits(symbol string, tokens []impl.Token) bool {
	if text, ok := strings.CutPrefix(symbol, `"`); ok {
		return lastOf(tokens).K != impl.TokNumber && lastOf(tokens).S == strings.TrimSuffix(text, `"`)
	}
	test, ok := c.tests[symbol]
	return ok && test(tokens)
}

// back takes back the last step.
func (c *earleyChart) back() {
	c.tokens = c.tokens[:len(c.tokens)-1]
	c.sets = c.sets[:len(c.sets)-1]
}

// whole says whether the tokens are a whole text.
func (c *earleyChart) whole() bool {
	return slices.ContainsFunc(c.sets[len(c.sets)-1], func(x earleyItem) bool {
		return x.symbol == c.start && x.from == 0 && x.met == len(c.rules[x.symbol][x.row])
	})
}

var slowGrammar = newEarley(surfGrammar)

// slowSource gives the code of a text and its offset, but for sizes.
func slowSource(start string, text string) (int, int) {
	tokens, code, at := slowTokens(text)
	if code != 0 {
		return code, at
	}
	c := slowGrammar.chart(start)
	for _, tok := range tokens {
		if !c.step(tok) {
			return impl.CodeText, tok.At
		}
	}
	if !c.whole() {
		return impl.CodeText, len(text)
	}
	return 0, 0
}

func parseOf(start string) surfParse {
	if start == "file" {
		return parseFile
	}
	return parseForm
}
