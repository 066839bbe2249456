package tree

import (
	"math/rand"
	"regexp"
	"slices"
	"strings"
	"testing"

	"tableau/api"
)

// An own account of what the document says: which trees may be by patterns of letters, the depth by a writer and a reader of what is written.

// letter is what a node is to the patterns below: a capital where the letter's own pattern names it alone.
func letter(op int8) string {
	switch {
	case op == api.TPack:
		return "P"
	case op == api.TCard:
		return "C"
	case op >= api.TCost && op <= api.TOn:
		return "l"
	case op == api.TBlock:
		return "b"
	case op == api.TIf:
		return "i"
	case op >= api.TLet && op <= api.TDo:
		return "s"
	case op >= api.TNum && op <= api.TCall:
		return "e"
	case op == api.TWord || op == api.TText:
		return "w"
	}
	return "?"
}

// law: what a kind of node is like: its N at most, the pattern of its Text, of its kids. The kids are rows of classes of letters.
type law struct {
	most int64
	text string
	kids []string
	any  string
}

const (
	great     = 1<<63 - 1
	statement = "si"
	argument  = "ew"
)

var (
	someText = regexp.MustCompile(`^[ -~]{0,64}$`)
	someName = regexp.MustCompile(`^[a-z][a-zA-Z0-9_]{0,31}$`)
	someWord = regexp.MustCompile(`^(card|cost|power|health|tag|on|when|let|if|else|repeat|as|each|in|choose|stop|abort|true|false|self|me|deck|hand|board|grave|play|die|hit|turn|draw)$`)
)

func lawOf(op int8) (law, bool) {
	switch op {
	case api.TPack:
		return law{any: "C"}, true
	case api.TCard:
		return law{text: "text", any: "l"}, true
	case api.TCost, api.TPower, api.THealth, api.TNum:
		return law{most: great}, true
	case api.TTag, api.TText:
		return law{text: "text"}, true
	case api.TOn:
		return law{most: 4, kids: []string{"b", "e b"}}, true
	case api.TBlock:
		return law{any: statement}, true
	case api.TLet:
		return law{text: "free", kids: []string{"e"}}, true
	case api.TSet:
		return law{text: "free self me", kids: []string{"e"}}, true
	case api.TIf:
		return law{kids: []string{"e b", "e b bi"}}, true
	case api.TRepeat:
		return law{most: great, text: "free", kids: []string{"b"}}, true
	case api.TEach:
		return law{text: "free", kids: []string{"e b"}}, true
	case api.TChoose:
		return law{text: "free", kids: []string{"e b", "e b b"}}, true
	case api.TStop, api.TAbort, api.TTrue, api.TFalse:
		return law{}, true
	case api.TDo:
		return law{text: "free hit draw", any: "e"}, true
	case api.TName:
		return law{text: "free self me"}, true
	case api.TNot, api.TNeg:
		return law{kids: []string{"e"}}, true
	case api.TField:
		return law{text: "name", kids: []string{"e"}}, true
	case api.TCall:
		return law{text: "free", any: argument}, true
	case api.TWord:
		return law{most: 3}, true
	}
	return law{kids: []string{"e e"}}, op >= api.TOr && op <= api.TRem
}

func modelText(s, law string) bool {
	switch {
	case law == "":
		return s == ""
	case law == "text":
		return someText.MatchString(s)
	case law == "name":
		return someName.MatchString(s)
	}
	return someName.MatchString(s) && (!someWord.MatchString(s) || slices.Contains(strings.Fields(law)[1:], s))
}

// modelFault is the first fault of the tree that should stand at the place, or -1 and the place behind it.
func modelFault(t []api.Node, at int, letters string) (fault, behind int) {
	if at >= len(t) {
		return len(t), 0
	}
	n := t[at]
	l, ok := lawOf(n.Op)
	if !ok || !strings.Contains(letters, letter(n.Op)) || n.Kind != 0 || n.M != 0 || n.At < 0 || n.N < 0 || n.N > l.most || !modelText(n.Text, l.text) {
		return at, 0
	}
	want := ""
	if l.any == "" {
		i := slices.IndexFunc(l.kids, func(s string) bool { return len(strings.Fields(s)) == n.Kids })
		if i < 0 && (n.Kids != 0 || l.kids != nil) {
			return at, 0
		}
		if i >= 0 {
			want = l.kids[i]
		}
	}
	if n.Kids < 0 {
		return at, 0
	}
	behind = at + 1
	for i := range n.Kids {
		kid := l.any
		if kid == "" {
			kid = strings.Fields(want)[i]
		}
		fault, behind = modelFault(t, behind, kid)
		if fault >= 0 {
			return fault, 0
		}
	}
	return -1, behind
}

// modelCheck is the place of the first fault, or -1.
func modelCheck(t []api.Node) int {
	fault, behind := modelFault(t, 0, "P")
	if fault < 0 && behind < len(t) {
		return behind
	}
	return fault
}

// plant: a tree with its kids at hand.
type plant struct {
	api.Node
	kids []plant
}

func grown(t []api.Node) (plant, []api.Node) {
	p := plant{Node: t[0]}
	t = t[1:]
	for range p.Kids {
		var kid plant
		kid, t = grown(t)
		p.kids = append(p.kids, kid)
	}
	return p, t
}

// written is the words and marks of which chapter 11 makes the tree's source; what a text says is left out.
func (p plant) written() []string {
	// Each kid is written once: what is written of it twice would be so twice as often at each step down.
	if p.Op == api.TDo {
		return append(append([]string{"x"}, p.listed()...), ";")
	}
	if p.Op >= api.TNum {
		return p.expression()
	}
	var inner [][]string
	for _, k := range p.kids {
		inner = append(inner, k.written())
	}
	all := slices.Concat(inner...)
	line := func(parts ...any) []string {
		var l []string
		for _, x := range parts {
			if s, ok := x.(string); ok {
				l = append(l, s)
			} else {
				l = append(l, x.([]string)...)
			}
		}
		return l
	}
	switch p.Op {
	case api.TPack:
		return all
	case api.TCard:
		return line("card", "text", "{", all, "}")
	case api.TCost, api.TPower, api.THealth:
		return line("cost", "7", ";")
	case api.TTag:
		return line("tag", "text", ";")
	case api.TOn:
		if p.Kids == 2 {
			return line("on", "play", "when", all)
		}
		return line("on", "play", all)
	case api.TBlock:
		return line("{", all, "}")
	case api.TLet:
		return line("let", "x", "=", all, ";")
	case api.TSet:
		return line("x", "=", all, ";")
	case api.TIf:
		if p.Kids == 3 {
			return line("if", inner[0], inner[1], "else", inner[2])
		}
		return line("if", all)
	case api.TRepeat:
		return line("repeat", "7", "as", "x", all)
	case api.TEach:
		return line("each", "x", "in", all)
	case api.TChoose:
		if p.Kids == 3 {
			return line("choose", "x", "in", inner[0], inner[1], "else", inner[2])
		}
		return line("choose", "x", "in", all)
	}
	return line("stop", ";")
}

func (p plant) listed() []string {
	l := []string{"("}
	for i, k := range p.kids {
		if i > 0 {
			l = append(l, ",")
		}
		l = append(l, k.written()...)
	}
	return append(l, ")")
}

// levels are the marks of the grammar's expr, and, rel, sum, term, from the loosest on.
func levels() [][]int8 {
	return [][]int8{{api.TOr}, {api.TAnd}, {api.TNot}, {api.TEq, api.TNe, api.TLt, api.TLe, api.TGt, api.TGe}, {api.TAdd, api.TSub}, {api.TMul, api.TDiv, api.TRem}, {api.TNeg}}
}

func level(op int8) int {
	i := slices.IndexFunc(levels(), func(l []int8) bool { return slices.Contains(l, op) })
	if i < 0 {
		return 8
	}
	return i + 1
}

// at is the kid's text at a place of the grammar that reads that level, and tighter ones.
func (p plant) at(kid, wanted int) []string {
	l := p.kids[kid].written()
	if level(p.kids[kid].Op) < wanted {
		l = slices.Concat([]string{"("}, l, []string{")"})
	}
	return l
}

func (p plant) expression() []string {
	own := level(p.Op)
	switch {
	case p.Op == api.TField:
		return append(p.at(0, 8), ".", "x")
	case p.Op == api.TCall:
		return append([]string{"x"}, p.listed()...)
	case own == 8:
		return []string{"x"}
	case p.Op == api.TNot:
		return append([]string{"!"}, p.at(0, 3)...)
	case p.Op == api.TNeg:
		return append([]string{"neg"}, p.at(0, 7)...)
	case own == 4:
		return slices.Concat(p.at(0, 5), []string{"4"}, p.at(1, 5))
	}
	return slices.Concat(p.at(0, own), []string{string(rune('0' + own))}, p.at(1, own+1))
}

// reader: reads what is written, and counts what is open as chapter 10 says. A mark between two is its level, as a text.
type reader struct {
	words      []string
	open, most int
}

func (r *reader) next() string {
	if len(r.words) == 0 {
		return ""
	}
	return r.words[0]
}

func (r *reader) take(want string) {
	if want != "" && r.next() != want {
		panic("the model reads " + r.next() + " where " + want + " should be")
	}
	r.words = r.words[1:]
}

func (r *reader) opened() {
	r.open++
	r.most = max(r.most, r.open)
}

func (r *reader) pack() {
	for r.next() == "card" {
		r.take("card")
		r.take("text")
		r.take("{")
		for r.next() != "}" {
			r.line()
		}
		r.take("}")
	}
}

func (r *reader) line() {
	word := r.next()
	r.take("")
	r.take("")
	if word != "on" {
		r.take(";")
		return
	}
	if r.next() == "when" {
		r.take("when")
		r.expr(1)
	}
	r.block()
}

func (r *reader) block() {
	r.opened()
	r.take("{")
	for r.next() != "}" {
		r.statement()
	}
	r.take("}")
	r.open--
}

func (r *reader) statement() {
	word := r.next()
	r.take("")
	switch word {
	case "let":
		r.take("x")
		r.take("=")
		r.expr(1)
		r.take(";")
	case "if":
		r.expr(1)
		r.block()
		r.alternative()
	case "repeat":
		r.take("7")
		r.take("as")
		r.take("x")
		r.block()
	case "each", "choose":
		r.take("x")
		r.take("in")
		r.expr(1)
		r.block()
		r.alternative()
	case "stop":
		r.take(";")
	default:
		if r.next() == "=" {
			r.take("=")
			r.expr(1)
		} else {
			r.list()
		}
		r.take(";")
	}
}

func (r *reader) alternative() {
	if r.next() != "else" {
		return
	}
	r.take("else")
	if r.next() == "{" {
		r.block()
		return
	}
	r.opened()
	r.statement()
	r.open--
}

func (r *reader) list() {
	r.opened()
	r.take("(")
	for r.next() != ")" {
		r.expr(1)
		if r.next() == "," {
			r.take(",")
		}
	}
	r.take(")")
	r.open--
}

func (r *reader) ahead(mark string, level int) {
	r.opened()
	r.take(mark)
	r.expr(level)
	r.open--
}

func (r *reader) expr(level int) {
	switch {
	case level == 8:
		r.item()
	case level == 3 && r.next() == "!":
		r.ahead("!", 3)
	case level == 7 && r.next() == "neg":
		r.ahead("neg", 7)
	case level == 3 || level == 7:
		r.expr(level + 1)
	case level == 4:
		r.expr(5)
		if r.next() == "4" {
			r.take("4")
			r.expr(5)
		}
	default:
		r.row(level)
	}
}

func (r *reader) row(level int) {
	around := r.open
	r.expr(level + 1)
	mark := string(rune('0' + level))
	for i := 0; r.next() == mark; i++ {
		if i > 0 {
			r.opened()
		}
		r.take(mark)
		r.expr(level + 1)
	}
	r.open = around
}

func (r *reader) item() {
	around := r.open
	if r.next() == "(" {
		r.opened()
		r.take("(")
		r.expr(1)
		r.take(")")
		r.open--
	} else {
		r.take("x")
		if r.next() == "(" {
			r.list()
		}
	}
	for i := 0; r.next() == "."; i++ {
		if i > 0 {
			r.opened()
		}
		r.take(".")
		r.take("x")
	}
	r.open = around
}

func modelDepth(t []api.Node) int {
	if modelCheck(t) >= 0 {
		return 0
	}
	p, _ := grown(t)
	r := &reader{words: p.written()}
	r.pack()
	if len(r.words) > 0 {
		panic("the model leaves words over")
	}
	return r.most
}

func (p plant) size() int {
	n := 1
	for _, k := range p.kids {
		n += k.size()
	}
	return n
}

func modelWeight(t []api.Node) int {
	if modelCheck(t) >= 0 {
		return 0
	}
	p, _ := grown(t)
	most := 0
	for _, card := range p.kids {
		for _, l := range card.kids {
			if l.Op == api.TOn {
				most = max(most, l.size()-1)
			}
		}
	}
	return most
}

// modelParts is the place behind the node's tree and those of its kids; -1 and none.
func modelParts(t []api.Node, at int) (int, []int) {
	if at < 0 || at >= len(t) || t[at].Kids < 0 {
		return -1, nil
	}
	var kids []int
	behind := at + 1
	for range t[at].Kids {
		kids = append(kids, behind)
		behind, _ = modelParts(t, behind)
		if behind < 0 {
			return -1, nil
		}
	}
	return behind, kids
}

// compare holds all calls on the list against the model.
func compare(t *testing.T, l []api.Node) {
	t.Helper()
	fault, depth, weight := modelCheck(l), modelDepth(l), modelWeight(l)
	want, wantAt := api.OK, 0
	if fault >= 0 {
		want, wantAt = api.ErrTree, fault
	} else if depth > api.MaxDepth {
		want = api.ErrDepth
	}
	if e, at := Check(l); e != want || at != wantAt {
		t.Fatalf("P9.1: %v: %d, %d; not %d, %d", l, e, at, want, wantAt)
	}
	if d, w := Depth(l), Weight(l); d != depth || w != weight {
		t.Fatalf("P9.3: %v: depth %d, weight %d; not %d, %d", l, d, w, depth, weight)
	}
	for at := -2; at < len(l)+3; at++ {
		behind, kids := modelParts(l, at)
		if got := Behind(l, at); got != behind {
			t.Fatalf("P9.2: Behind(%v, %d): %d, not %d", l, at, got, behind)
		}
		if got := Kids(l, at); !slices.Equal(got, kids) {
			t.Fatalf("P9.2: Kids(%v, %d): %v, not %v", l, at, got, kids)
		}
	}
}

// gardener: makes trees by chance, of as many nodes as there is sap for, more or less.
type gardener struct {
	*rand.Rand
	sap int
}

func (g *gardener) pick(l ...string) string { return l[g.Intn(len(l))] }

func (g *gardener) free() string { return g.pick("x", "y", "a1_Z", "zone", "count", "selfs") }

func (g *gardener) several(most int, one func() []api.Node) [][]api.Node {
	var l [][]api.Node
	for range g.Intn(most + 1) {
		if g.sap > 0 {
			l = append(l, one())
		}
	}
	return l
}

func (g *gardener) pack() []api.Node { return op(api.TPack, g.several(3, g.card)...) }

func (g *gardener) card() []api.Node {
	return named(api.TCard, g.pick("", "Fox", "if", " \"~"), g.several(4, g.line)...)
}

func (g *gardener) line() []api.Node {
	switch g.Intn(6) {
	case 0:
		return numbered(api.TCost+int8(g.Intn(3)), g.Int63())
	case 1:
		return named(api.TTag, g.pick("", "Beast"))
	case 2:
		return numbered(api.TOn, int64(g.Intn(5)), g.expr(), g.block())
	}
	return numbered(api.TOn, int64(g.Intn(5)), g.block())
}

func (g *gardener) block() []api.Node { return op(api.TBlock, g.several(4, g.statement)...) }

func (g *gardener) statement() []api.Node {
	g.sap--
	switch g.Intn(9) {
	case 0:
		return named(api.TLet, g.free(), g.expr())
	case 1:
		return named(api.TSet, g.pick("x", "self", "me"), g.expr())
	case 2:
		return g.choice()
	case 3:
		return node(api.Node{Op: api.TRepeat, N: g.Int63(), Text: g.free()}, g.block())
	case 4:
		return named(api.TEach, g.free(), g.expr(), g.block())
	case 5:
		if g.Intn(2) == 0 {
			return named(api.TChoose, g.free(), g.expr(), g.block(), g.block())
		}
		return named(api.TChoose, g.free(), g.expr(), g.block())
	case 6:
		return op(api.TStop + int8(g.Intn(2)))
	}
	return named(api.TDo, g.pick("move", "hit", "draw"), g.several(3, g.expr)...)
}

func (g *gardener) choice() []api.Node {
	g.sap--
	switch g.Intn(3) {
	case 0:
		return op(api.TIf, g.expr(), g.block())
	case 1:
		return op(api.TIf, g.expr(), g.block(), g.block())
	}
	return op(api.TIf, g.expr(), g.block(), g.choice())
}

func (g *gardener) argument() []api.Node {
	switch g.Intn(5) {
	case 0:
		return numbered(api.TWord, int64(g.Intn(4)))
	case 1:
		return named(api.TText, g.pick("", "Beast", "if"))
	}
	return g.expr()
}

func (g *gardener) expr() []api.Node {
	g.sap--
	if g.sap < 0 {
		return named(api.TName, g.pick("x", "self", "me"))
	}
	switch g.Intn(9) {
	case 0:
		return numbered(api.TNum, g.Int63())
	case 1:
		return op(api.TTrue + int8(g.Intn(2)))
	case 2:
		return op(api.TNot+int8(g.Intn(2)), g.expr())
	case 3:
		return named(api.TField, g.pick("power", "x", "if", "self"), g.expr())
	case 4:
		return named(api.TCall, g.free(), g.several(3, g.argument)...)
	}
	return op(api.TOr+int8(g.Intn(int(api.TRem-api.TOr)+1)), g.expr(), g.expr())
}

// chance makes the same trees each time.
func chance(seed int64) *gardener { return &gardener{Rand: rand.New(rand.NewSource(seed))} }

func TestTreesByChance(t *testing.T) {
	g := chance(9)
	heavy := 0
	for i := range 3000 {
		g.sap = i % 97
		l := g.pack()
		compare(t, l)
		if e, _ := Check(l); e == api.ErrTree {
			t.Fatalf("P9.1: the tree %v is none", l)
		}
		heavy = max(heavy, Weight(l))
	}
	if heavy < 50 {
		t.Errorf("the trees by chance are too light: %d", heavy)
	}
}

// TestTreesWithAFault: a node of a tree is spoiled, left out or put in.
func TestTreesWithAFault(t *testing.T) {
	g := chance(99)
	faults := 0
	for i := range 20000 {
		g.sap = 3 + i%23
		l := g.pack()
		spoilNode(g, &l)
		compare(t, l)
		if modelCheck(l) >= 0 {
			faults++
		}
	}
	if faults < 10000 {
		t.Errorf("too few of the trees have a fault: %d", faults)
	}
}

func spoilNode(g *gardener, l *[]api.Node) {
	at := g.Intn(len(*l))
	n := &(*l)[at]
	number := func() int64 { return []int64{-1, 0, 1, 2, 3, 4, 5, 1 << 40}[g.Intn(8)] }
	switch g.Intn(9) {
	case 0:
		n.Op = int8(g.Intn(60) - 3)
	case 1:
		n.Kind = int8(number())
	case 2:
		n.N = number()
	case 3:
		n.M = number()
	case 4:
		n.Text = g.pick("", "x", "if", "self", "me", "hit", "draw", "X", "a b", "\x1f", "é")
	case 5:
		n.At = int(number())
	case 6:
		n.Kids = int(number())
	case 7:
		*l = slices.Delete(*l, at, at+1)
	case 8:
		*l = slices.Insert(*l, g.Intn(len(*l)+1), g.expr()...)
	}
}

// TestAllSmallExpressions holds the depth of each expression of up to six nodes against what the model reads of it.
func TestAllSmallExpressions(t *testing.T) {
	one := [][]api.Node{number(1), named(api.TCall, "f")}
	sizes := [][][]api.Node{nil, one}
	for size := 2; size <= 6; size++ {
		var all [][]api.Node
		for _, e := range sizes[size-1] {
			all = append(all, op(api.TNot, e), op(api.TNeg, e), named(api.TField, "a", e), named(api.TCall, "f", e))
		}
		for left := 1; left < size-1; left++ {
			for _, a := range sizes[left] {
				for _, b := range sizes[size-1-left] {
					for _, o := range []int8{api.TOr, api.TAnd, api.TEq, api.TSub, api.TMul} {
						all = append(all, op(o, a, b))
					}
				}
			}
		}
		sizes = append(sizes, all)
	}
	for _, all := range sizes {
		for _, e := range all {
			l := card(on(e, op(api.TBlock)))
			if got, want := Depth(l), modelDepth(l); got != want {
				t.Fatalf("P9.3: the depth of %v: %d, not %d", e, got, want)
			}
		}
	}
}
