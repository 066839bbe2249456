package parse

import (
	"slices"
	"strings"
	"testing"

	"tableau/api"
)

// An own account of what the document says: its grammar, rule by rule, and what may come next by all ways at once.

// grammar has a rule a line, its name first. A 'word is that word, a capital a sort of token, a mark itself. With a token that has a # ahead one more is open, up to the next # alone.
const grammar = `
pack
pack card pack
card 'card TEXT { lines }
lines
lines line lines
line 'cost NUMBER ;
line 'power NUMBER ;
line 'health NUMBER ;
line 'tag TEXT ;
line 'on event when block
event 'play
event 'die
event 'hit
event 'turn
event 'draw
when
when 'when expr
block #{ stmts } #
stmts
stmts stmt stmts
stmt 'let FREE = expr ;
stmt target = expr ;
target FREE
target 'self
target 'me
stmt 'if expr block otherwise
otherwise
otherwise 'else block
otherwise 'else #'if expr block otherwise #
stmt 'repeat NUMBER 'as FREE block
stmt 'each FREE 'in expr block
stmt 'choose FREE 'in expr block none
none
none 'else block
stmt 'stop ;
stmt 'abort ;
stmt effect #( exprs ) # ;
effect FREE
effect 'hit
effect 'draw
exprs
exprs expr exprs2
exprs2
exprs2 , expr exprs2
expr and ors
ors
ors || and ors2
ors2
ors2 #|| and ors2 #
and not ands
ands
ands && not ands2
ands2
ands2 #&& not ands2 #
not #! not #
not rel
rel sum compared
compared
compared == sum
compared != sum
compared < sum
compared <= sum
compared > sum
compared >= sum
sum term sums
sums
sums + term sums2
sums - term sums2
sums2
sums2 #+ term sums2 #
sums2 #- term sums2 #
term sign terms
terms
terms * sign terms2
terms / sign terms2
terms % sign terms2
terms2
terms2 #* sign terms2 #
terms2 #/ sign terms2 #
terms2 #% sign terms2 #
sign #- sign #
sign item points
points
points . NAME points2
points2
points2 #. NAME points2 #
item NUMBER
item 'true
item 'false
item FREE
item 'self
item 'me
item FREE #( args ) #
item #( expr ) #
args
args arg args2
args2
args2 , arg args2
arg expr
arg 'deck
arg 'hand
arg 'board
arg 'grave
arg TEXT
`

// The grammar's rules, by their names; and the words, to be found soon.
var (
	rules = readRules()
	words = wordSet()
)

func wordSet() map[string]bool {
	m := map[string]bool{}
	for _, w := range allWords() {
		m[w] = true
	}
	return m
}

func readRules() map[string][][]string {
	m := map[string][][]string{}
	for line := range strings.SplitSeq(strings.TrimSpace(grammar), "\n") {
		f := strings.Fields(line)
		m[f[0]] = append(m[f[0]], f[1:])
	}
	return m
}

// way: what is wanted next, what behind that, and how much of all this is open.
type way struct {
	symbol string
	behind *way
	open   int
}

func (w *way) ahead(symbol string) *way {
	x := &way{symbol: symbol, behind: w}
	if w != nil {
		x.open = w.open
	}
	if symbol == "#" {
		x.open++
	}
	return x
}

// model: all the ways by which it may go on.
type model []*way

func newModel(whole string) model {
	var end *way
	return model{end.ahead("END").ahead(whole)}
}

// matches tells whether the token is what the grammar's symbol says.
func matches(symbol string, t api.Token) bool {
	switch symbol {
	case "END":
		return t.Kind == api.TkEnd
	case "NUMBER":
		return t.Kind == api.TkNum
	case "TEXT":
		return t.Kind == api.TkText
	case "NAME":
		return t.Kind == api.TkName
	case "FREE":
		return t.Kind == api.TkName && !words[t.Text]
	}
	if word, is := strings.CutPrefix(symbol, "'"); is {
		return t.Kind == api.TkName && t.Text == word
	}
	return t.Kind == api.TkMark && t.Text == symbol
}

// step is the model behind the token, with no way where nothing goes on with that; and what is open then, where the token opens one more.
func (m model) step(t api.Token) (next model, open int) {
	var follow func(w *way)
	follow = func(w *way) {
		if w == nil {
			return
		}
		symbol, opens := strings.CutPrefix(w.symbol, "#")
		switch {
		case w.symbol == "#":
			follow(w.behind)
		case rules[symbol] != nil:
			for _, r := range rules[symbol] {
				more := w.behind
				for _, s := range slices.Backward(r) {
					more = more.ahead(s)
				}
				follow(more)
			}
		case matches(symbol, t):
			next = append(next, w.behind)
			if opens {
				open = w.behind.open
			}
		}
	}
	for _, w := range m {
		follow(w)
	}
	return next, open
}

// modelVerdict is the error and the number of the token at which the list is refused; and how many are open at most.
func modelVerdict(whole string, l []api.Token) (why api.Errno, at, most int) {
	m := newModel(whole)
	for i, t := range l {
		next, open := m.step(t)
		if next == nil {
			return api.ErrParse, i, most
		}
		m = next
		if open > 64 {
			return api.ErrDepth, i, most
		}
		most = max(most, open)
	}
	return api.OK, -1, most
}

// holdVerdict holds that the list, whose last token is the end, is refused as the model says; and how many are open at most.
func holdVerdict(t *testing.T, whole string, l []api.Token) (nodes []api.Node, why api.Errno, most int) {
	t.Helper()
	why, at, most := modelVerdict(whole, l)
	return holdAnswer(t, whole, l, why, at), why, most
}

// holdAnswer holds that the list is refused so, at the token of that number.
func holdAnswer(t *testing.T, whole string, l []api.Token, why api.Errno, at int) []api.Node {
	t.Helper()
	parse, place := Pack, 0
	if whole == "expr" {
		parse = Expr
	}
	if why != api.OK {
		place = l[at].At
	}
	n, e, got := parse(l)
	if e != why || got != place || e != api.OK && len(n) != 0 {
		t.Fatalf("P10: %s: %d nodes, %d, %d; not %d, %d", shown(l), len(n), e, got, why, place)
	}
	return n
}

// growing: tries each of the tokens behind all that has been taken.
type growing struct {
	t      *testing.T
	whole  string
	tokens []api.Token
	tried  int
}

// from tries all lists that begin so, where the model stands, with so many more tokens; what is refused goes on by one more alone.
func (g *growing) from(l []api.Token, m model, more int) {
	end := api.Token{At: 5000}
	why := api.OK
	if next, _ := m.step(end); next == nil {
		why = api.ErrParse
	}
	holdAnswer(g.t, g.whole, append(slices.Clone(l), end), why, len(l))
	g.tried++
	if more == 0 {
		return
	}
	for i, x := range g.tokens {
		x.At = 1000 - len(l)
		list := append(slices.Clone(l), x)
		if next, _ := m.step(x); next != nil {
			g.from(list, next, more-1)
			continue
		}
		behind := g.tokens[(i*7+len(l))%len(g.tokens)]
		holdAnswer(g.t, g.whole, append(slices.Clone(list), end), api.ErrParse, len(l))
		holdAnswer(g.t, g.whole, append(slices.Clone(list), behind, end), api.ErrParse, len(l))
		g.tried += 2
	}
}

// some are the tokens of a source, each once.
func some(src string) []api.Token {
	var l []api.Token
	for _, t := range cut(src) {
		if t.At = 0; t.Kind != api.TkEnd && !slices.Contains(l, t) {
			l = append(l, t)
		}
	}
	return l
}

func TestAllShortLists(t *testing.T) {
	for _, x := range []struct {
		whole, ahead, tokens string
		more                 int
	}{
		{"expr", "", `a 1 self hit deck "x" true ( ) , . ! - + * < == && || = ; { }`, 5},
		{"expr", "", "a ( ) , . ! - * == ||", 6},
		{"expr", "f(", `a hand "x" ( ) , . -`, 5},
		{"pack", "", `card "A" a 1 { } ; cost tag on play when hit`, 8},
		{"pack", `card "A" { `, `cost power health tag on play die hit turn draw when else "x" 1 a { } ; card -`, 5},
		{"pack", inBlockHead, `let if else repeat each choose stop abort self me hit draw x 1 "a" as in { } ( ) ; = , -`, 5},
		{"pack", inBlockHead, "if else x { } ( ) ; =", 7},
		{"pack", inBlockHead + "if a { } ", "if else choose in x { } stop ; (", 7},
		{"pack", inBlockHead + "choose c in l { } ", "if else choose each in x { } stop ;", 7},
	} {
		g := growing{t: t, whole: x.whole, tokens: some(x.tokens)}
		l := cut(x.ahead)
		l = l[:len(l)-1]
		m := newModel(x.whole)
		for _, t := range l {
			m, _ = m.step(t)
		}
		g.from(l, m, x.more)
		if g.tried < 900 {
			t.Errorf("%s: too few lists are tried: %d", x.ahead, g.tried)
		}
	}
}
