package tree

import (
	"math"
	"slices"
	"strings"
	"testing"

	"tableau/api"
)

// node is the list of a node and its kids.
func node(n api.Node, kids ...[]api.Node) []api.Node {
	n.Kids = len(kids)
	return append([]api.Node{n}, slices.Concat(kids...)...)
}

func op(op int8, kids ...[]api.Node) []api.Node { return node(api.Node{Op: op}, kids...) }

func named(op int8, text string, kids ...[]api.Node) []api.Node {
	return node(api.Node{Op: op, Text: text}, kids...)
}

func numbered(op int8, n int64, kids ...[]api.Node) []api.Node {
	return node(api.Node{Op: op, N: n}, kids...)
}

func number(n int64) []api.Node { return numbered(api.TNum, n) }

// card is the pack of one card with these lines.
func card(lines ...[]api.Node) []api.Node { return op(api.TPack, named(api.TCard, "a", lines...)) }

func on(kids ...[]api.Node) []api.Node { return op(api.TOn, kids...) }

func block(statements ...[]api.Node) []api.Node { return op(api.TBlock, statements...) }

// ability is the pack of one card with one ability of these statements.
func ability(statements ...[]api.Node) []api.Node { return card(on(block(statements...))) }

// condition is the pack of one card with one ability of that condition, and nothing else.
func condition(e []api.Node) []api.Node { return card(on(e, block())) }

// refused holds that the list is no tree, and where.
func refused(t *testing.T, what string, l []api.Node, place int) {
	t.Helper()
	if e, at := Check(l); e != api.ErrTree || at != place {
		t.Errorf("P9.1: %s: %d, %d; not ErrTree, %d", what, e, at, place)
	}
	if d, w := Depth(l), Weight(l); d != 0 || w != 0 {
		t.Errorf("P9.3: %s: depth %d, weight %d where Check answers ErrTree", what, d, w)
	}
}

func taken(t *testing.T, what string, l []api.Node) {
	t.Helper()
	if e, at := Check(l); e != api.OK || at != 0 {
		t.Errorf("P9.1: %s: %d, %d; not OK, 0", what, e, at)
	}
}

func TestExamples(t *testing.T) {
	sums := op(api.TAdd, op(api.TAdd, number(1), number(2)), op(api.TMul, op(api.TAdd, number(3), number(4)), op(api.TNeg, number(5))))
	ifs := op(api.TIf, op(api.TTrue), block(), op(api.TIf, op(api.TTrue), block()))
	fields := named(api.TField, "a", named(api.TField, "b", named(api.TField, "c", named(api.TName, "self"))))
	for _, x := range []struct {
		what          string
		list          []api.Node
		depth, weight int
	}{
		{"a pack of nothing", op(api.TPack), 0, 0},
		{"an empty ability", ability(), 1, 1},
		{"a draw", ability(named(api.TDo, "draw", named(api.TName, "me"))), 2, 3},
		{"sums", ability(named(api.TLet, "x", sums)), 3, 12},
		{"else if", ability(ifs), 3, 7},
		{"a chain of fields", condition(fields), 2, 5},
	} {
		taken(t, x.what, x.list)
		if d, w := Depth(x.list), Weight(x.list); d != x.depth || w != x.weight {
			t.Errorf("P9.3: %s: depth %d, weight %d; not %d, %d", x.what, d, w, x.depth, x.weight)
		}
	}
	refused(t, "the event 5", card(numbered(api.TOn, 5, block())), 2)
	refused(t, "a tag of a byte 10", card(named(api.TTag, "\n")), 2)
	refused(t, "a block as a line", card(block()), 2)
}

func TestNoNodeAtAll(t *testing.T) {
	refused(t, "nil", nil, 0)
	refused(t, "an empty list", []api.Node{}, 0)
	refused(t, "a list with spare room", op(api.TPack)[:0], 0)
}

func TestTheRoot(t *testing.T) {
	taken(t, "a pack alone", op(api.TPack))
	refused(t, "two packs", append(op(api.TPack), op(api.TPack)...), 1)
	refused(t, "a pack within a pack", op(api.TPack, op(api.TPack)), 1)
	for o := math.MinInt8; o <= math.MaxInt8; o++ {
		if int8(o) != api.TPack {
			refused(t, "a root that is no TPack", op(int8(o)), 0)
		}
	}
}

func TestMoreBehindTheTree(t *testing.T) {
	for _, l := range wholeTrees() {
		for _, more := range [][]api.Node{op(api.TPack), named(api.TCard, "a"), block(), {{}}, {{Op: -1, Kids: -1}}} {
			refused(t, "more behind a tree", slices.Concat(l, more), len(l))
		}
	}
}

// wholeTrees are ones with each kind of node.
func wholeTrees() [][]api.Node {
	var l [][]api.Node
	for _, s := range specimens() {
		l = append(l, s.list())
	}
	return l
}

func TestTheListEndsAheadOfTheTree(t *testing.T) {
	for _, l := range wholeTrees() {
		for end := range len(l) {
			refused(t, "a tree cut off", l[:end], end)
		}
	}
	refused(t, "two cards asked for, one there", []api.Node{{Op: api.TPack, Kids: 2}, {Op: api.TCard}}, 2)
	refused(t, "a pack of very many kids", []api.Node{{Op: api.TPack, Kids: math.MaxInt}}, 1)
	refused(t, "very many kids within very many", []api.Node{{Op: api.TPack, Kids: math.MaxInt}, {Op: api.TCard, Kids: math.MaxInt}, {Op: api.TCost}}, 3)
}

func TestTheFirstFaultIsTold(t *testing.T) {
	l := ability(named(api.TLet, "x", number(-1)), named(api.TLet, "if", number(1)))
	refused(t, "two faults", l, 5)
	l[1].M = 1
	refused(t, "three faults", l, 1)
	refused(t, "a fault in a list that ends too early", l[:4], 1)
	refused(t, "a fault in a list with more behind", append(l, api.Node{}), 1)
	refused(t, "a fault in a tree that is too deep", ability(nested(80), named(api.TLet, "x", number(-1))), len(ability(nested(80)))+1)
}

// nested is so many blocks within one another.
func nested(n int) []api.Node {
	s := op(api.TStop)
	for range n {
		s = named(api.TRepeat, "x", block(s))
	}
	return s
}

// specimen: a kind of node in a tree: what stands ahead of it there, its own list, what stands behind.
type specimen struct {
	ahead, own, behind []api.Node
	text               string // what its Text must be: none, text, free, name, or free and these words
	most               int64
	kids               []int // how many kids it may have; none named: any number
	any                bool
}

func (s specimen) list() []api.Node { return slices.Concat(s.ahead, s.own, s.behind) }

// changed is the tree with the specimen's own node changed, and where that stands.
func (s specimen) changed(change func(n *api.Node)) ([]api.Node, int) {
	l := s.list()
	change(&l[len(s.ahead)])
	return l, len(s.ahead)
}

func pieces(own []api.Node, text string, most int64, kids ...int) specimen {
	s := specimen{own: own, text: text, most: most, kids: kids, any: len(kids) == 0}
	packed := ability()
	switch o := own[0].Op; {
	case o == api.TCard:
		s.ahead = packed[:1]
	case o == api.TBlock:
		s.ahead = packed[:3]
	case o >= api.TCost && o <= api.TOn:
		s.ahead = packed[:2]
	case o >= api.TLet && o <= api.TDo:
		s.ahead, s.behind = ability(own, nil)[:4], op(api.TStop)
	case o >= api.TNum:
		call := ability(named(api.TLet, "x", named(api.TCall, "f", own, number(1))))
		s.ahead, s.behind = call[:6], number(1)
	}
	return s
}

// specimens are one of each kind of node, with as many kids as it may have.
func specimens() []specimen {
	e, b, huge := number(1), block(), int64(math.MaxInt64)
	l := []specimen{
		pieces(op(api.TPack), "none", 0),
		pieces(named(api.TCard, "a"), "text", 0),
		pieces(named(api.TCard, "a", op(api.TCost), op(api.TPower), named(api.TTag, "b")), "text", 0),
		pieces(op(api.TCost), "none", huge, 0), pieces(op(api.TPower), "none", huge, 0), pieces(op(api.THealth), "none", huge, 0),
		pieces(named(api.TTag, "a"), "text", 0, 0),
		pieces(on(b), "none", 4, 1, 2), pieces(on(e, b), "none", 4, 1, 2),
		pieces(b, "none", 0), pieces(block(op(api.TStop), op(api.TAbort)), "none", 0),
		pieces(named(api.TLet, "x", e), "free", 0, 1),
		pieces(named(api.TSet, "x", e), "free self me", 0, 1),
		pieces(op(api.TIf, e, b), "none", 0, 2, 3), pieces(op(api.TIf, e, b, b), "none", 0, 2, 3), pieces(op(api.TIf, e, b, op(api.TIf, e, b)), "none", 0, 2, 3),
		pieces(named(api.TRepeat, "x", b), "free", huge, 1),
		pieces(named(api.TEach, "x", e, b), "free", 0, 2),
		pieces(named(api.TChoose, "x", e, b), "free", 0, 2, 3), pieces(named(api.TChoose, "x", e, b, b), "free", 0, 2, 3),
		pieces(op(api.TStop), "none", 0, 0), pieces(op(api.TAbort), "none", 0, 0),
		pieces(named(api.TDo, "x"), "free hit draw", 0), pieces(named(api.TDo, "x", e, e, e), "free hit draw", 0),
		pieces(e, "none", huge, 0), pieces(op(api.TTrue), "none", 0, 0), pieces(op(api.TFalse), "none", 0, 0),
		pieces(named(api.TName, "x"), "free self me", 0, 0),
		pieces(op(api.TNot, e), "none", 0, 1), pieces(op(api.TNeg, e), "none", 0, 1),
		pieces(named(api.TField, "x", e), "name", 0, 1),
		pieces(named(api.TCall, "x"), "free", 0), pieces(named(api.TCall, "x", op(api.TWord), e, named(api.TText, "")), "free", 0),
		pieces(op(api.TWord), "none", 3, 0), pieces(named(api.TText, "a"), "text", 0, 0),
	}
	for o := api.TOr; o <= api.TRem; o++ {
		l = append(l, pieces(op(o, e, e), "none", 0, 2))
	}
	return l
}

func TestEachKindOfNode(t *testing.T) {
	seen := map[int8]bool{}
	for _, s := range specimens() {
		taken(t, "a specimen", s.list())
		seen[s.own[0].Op] = true
	}
	if len(seen) != 7+10+23 {
		t.Errorf("specimens of %d kinds", len(seen))
	}
}

func TestOpsThatAreNone(t *testing.T) {
	named := map[int8]bool{}
	for _, s := range specimens() {
		named[s.own[0].Op] = true
	}
	for _, s := range specimens() {
		for o := math.MinInt8; o <= math.MaxInt8; o++ {
			if !named[int8(o)] {
				l, at := s.changed(func(n *api.Node) { n.Op = int8(o) })
				refused(t, "an Op that is none", l, at)
			}
		}
	}
}

func TestFieldsThatAreNotNamed(t *testing.T) {
	for _, s := range specimens() {
		for _, x := range []int64{-1, 1, math.MinInt64, math.MaxInt64} {
			l, at := s.changed(func(n *api.Node) { n.M = x })
			refused(t, "an M", l, at)
		}
		for _, x := range []int8{-1, api.KInt, api.KList, math.MaxInt8} {
			l, at := s.changed(func(n *api.Node) { n.Kind = x })
			refused(t, "a Kind", l, at)
		}
		for _, x := range []int{-1, math.MinInt} {
			l, at := s.changed(func(n *api.Node) { n.At = x })
			refused(t, "an At below 0", l, at)
		}
		for _, x := range []int{0, 1, math.MaxInt} {
			l, _ := s.changed(func(n *api.Node) { n.At = x })
			taken(t, "an At of 0 or more", l)
		}
	}
}

func TestNumbers(t *testing.T) {
	for _, s := range specimens() {
		for _, x := range []int64{math.MinInt64, -1, 0, 1, 2, 3, 4, 5, 255, 256, math.MaxInt64} {
			l, at := s.changed(func(n *api.Node) { n.N = x })
			if x >= 0 && x <= s.most {
				taken(t, "an N", l)
			} else {
				refused(t, "an N", l, at)
			}
		}
	}
}

const allWords = "card cost power health tag on when let if else repeat as each in choose stop abort true false self me deck hand board grave play die hit turn draw"

func freeNames() []string {
	return []string{"x", "a", "z", "aZ", "aA", "a0", "a9", "a_", "zone", "count", "harm", "owner", "selfs", "sel", "mE", "me_", "drawn", "hits", "cards", "iff", strings.Repeat("a", 32), "a" + strings.Repeat("Z9_", 10) + "b"}
}

func noNames() []string {
	return []string{"A", "Z", "_", "_a", "0", "9a", " a", "a ", "a b", "a-b", "a.b", "a\x00", "\x00", "é", "aé", "a\x80", "a@", "a[", "a`", "a{", "`", "{", "a/", "a:", strings.Repeat("a", 33), strings.Repeat("a", 1000)}
}

func TestTexts(t *testing.T) {
	lists := map[string][]string{
		"empty": {""},
		"words": strings.Fields(allWords),
		"free":  freeNames(),
		"text":  {" ", "~", "A", "a b", "a-b", "\"", "\\", strings.Repeat(" ", 64), strings.Repeat("~", 64)},
		"none":  {"\x1f", "\x7f", "\n", "a\t", "\x00", "é", "\x80", "\xff", strings.Repeat("a", 65), strings.Repeat("a", 63) + "é"},
	}
	for _, s := range specimens() {
		may := map[string]bool{}
		switch law := strings.Fields(s.text); law[0] {
		case "none":
			may[""] = true
		case "text":
			for _, of := range []string{"empty", "words", "free", "text"} {
				for _, x := range lists[of] {
					may[x] = true
				}
			}
		default:
			for _, x := range append(freeNames(), law[1:]...) {
				may[x] = true
			}
			if law[0] == "name" {
				for _, x := range lists["words"] {
					may[x] = true
				}
			}
		}
		for of, list := range lists {
			for _, x := range list {
				checkText(t, s, x, may[x], of)
			}
		}
		if s.text != "text" {
			for _, x := range noNames() {
				checkText(t, s, x, false, "no name")
			}
		}
	}
}

func checkText(t *testing.T, s specimen, text string, may bool, what string) {
	t.Helper()
	l, at := s.changed(func(n *api.Node) { n.Text = text })
	if may {
		taken(t, "a Text ("+what+") "+text, l)
	} else {
		refused(t, "a Text ("+what+") "+text, l, at)
	}
}

func TestEachByteOfATextAndAName(t *testing.T) {
	for b := range 256 {
		text := "a" + string([]byte{byte(b)})
		inText := b >= 32 && b <= 126
		inName := b < 128 && strings.ContainsRune("abcdefghijklmnopqrstuvwxyzABCDEFGHIJKLMNOPQRSTUVWXYZ0123456789_", rune(b))
		if text == "as" {
			continue
		}
		for _, s := range specimens() {
			switch s.text {
			case "none":
				checkText(t, s, text, false, "a byte")
			case "text":
				checkText(t, s, text, inText, "a byte")
			default:
				checkText(t, s, text, inName, "a byte")
			}
		}
	}
}

func TestNumbersOfKids(t *testing.T) {
	for _, s := range specimens() {
		for _, x := range []int{math.MinInt, -2, -1, 0, 1, 2, 3, 4, 1 << 31, 1 << 62, math.MaxInt} {
			if x == s.own[0].Kids || x >= 0 && (s.any || slices.Contains(s.kids, x)) {
				continue
			}
			l, at := s.changed(func(n *api.Node) { n.Kids = x })
			refused(t, "a number of kids that its kind has not", l, at)
		}
	}
}

// TestKidsOneTooFewAndOneTooMany: the number is one that the kind may have, but the list has another.
func TestKidsOneTooFewAndOneTooMany(t *testing.T) {
	for _, s := range specimens() {
		for _, more := range []int{-1, 1} {
			x := s.own[0].Kids + more
			l, at := s.changed(func(n *api.Node) { n.Kids = x })
			if e, place := Check(l); e != api.ErrTree || place < at || place != modelCheck(l) {
				t.Errorf("P9.1: %v: %d, %d; not ErrTree, %d", l, e, place, modelCheck(l))
			}
		}
	}
	refused(t, "a block without its last statement", []api.Node{{Op: api.TPack, Kids: 1}, {Op: api.TCard, Kids: 1}, {Op: api.TOn, Kids: 1}, {Op: api.TBlock, Kids: 2}, {Op: api.TStop}}, 5)
	refused(t, "a block with one statement too many", []api.Node{{Op: api.TPack, Kids: 1}, {Op: api.TCard, Kids: 1}, {Op: api.TOn, Kids: 1}, {Op: api.TBlock, Kids: 1}, {Op: api.TStop}, {Op: api.TStop}}, 5)
}

// seat: a place of a kid: what stands ahead of it, what behind, the Ops that may stand there.
type seat struct {
	what          string
	ahead, behind []api.Node
	ops           string
}

func between(what string, whole []api.Node, at, behind int, groups string) seat {
	return seat{what, whole[:at], whole[behind:], groups}
}

// seats are all kinds of places of kids, each with the groups that may stand there.
func seats() []seat {
	e, b := number(1), block()
	l := []seat{
		{"the root", nil, nil, "pack"},
		between("a pack's first kid", op(api.TPack, named(api.TCard, ""), named(api.TCard, "")), 1, 2, "card"),
		between("a pack's second kid", op(api.TPack, named(api.TCard, ""), named(api.TCard, "")), 2, 3, "card"),
		between("a card's first kid", card(op(api.TCost), op(api.TCost)), 2, 3, "line"),
		between("a card's second kid", card(op(api.TCost), op(api.TCost)), 3, 4, "line"),
		between("the only kid of a TOn", card(on(b)), 3, 4, "block"),
		between("the first kid of a TOn", card(on(e, b)), 3, 4, "expression"),
		between("the second kid of a TOn", card(on(e, b)), 4, 5, "block"),
		between("a block's first kid", ability(op(api.TStop), op(api.TStop)), 4, 5, "statement"),
		between("a block's second kid", ability(op(api.TStop), op(api.TStop)), 5, 6, "statement"),
	}
	inner := func(what string, own []api.Node, groups ...string) {
		whole := ability(own)
		for i, g := range groups {
			l = append(l, between(what, whole, 5+i, 6+i, g))
		}
	}
	inner("a let", named(api.TLet, "x", e), "expression")
	inner("a set", named(api.TSet, "x", e), "expression")
	inner("an if", op(api.TIf, e, b), "expression", "block")
	inner("an if with an else", op(api.TIf, e, b, b), "expression", "block", "block if")
	inner("a repeat", named(api.TRepeat, "x", b), "block")
	inner("an each", named(api.TEach, "x", e, b), "expression", "block")
	inner("a choose", named(api.TChoose, "x", e, b), "expression", "block")
	inner("a choose with an else", named(api.TChoose, "x", e, b, b), "expression", "block", "block")
	inner("a do", named(api.TDo, "x", e, e, e), "expression", "expression", "expression")
	operand := func(what string, own []api.Node, group string) {
		whole := condition(own)
		for i := range own[0].Kids {
			l = append(l, between(what, whole, 4+i, 5+i, group))
		}
	}
	operand("a not", op(api.TNot, e), "expression")
	operand("a minus", op(api.TNeg, e), "expression")
	operand("a field", named(api.TField, "x", e), "expression")
	operand("a call", named(api.TCall, "x", e, e, e), "expression argument")
	for o := api.TOr; o <= api.TRem; o++ {
		operand("a mark between two", op(o, e, e), "expression")
	}
	return l
}

func groupOf(o int8) string {
	switch {
	case o == api.TPack:
		return "pack"
	case o == api.TCard:
		return "card"
	case o <= api.TOn:
		return "line"
	case o == api.TBlock:
		return "block"
	case o <= api.TDo:
		return "statement"
	case o <= api.TCall:
		return "expression"
	}
	return "argument"
}

func TestEachKindAtEachPlace(t *testing.T) {
	for _, p := range seats() {
		for _, s := range specimens() {
			l := slices.Concat(p.ahead, s.own, p.behind)
			may := strings.Fields(p.ops)
			if slices.Contains(may, groupOf(s.own[0].Op)) || s.own[0].Op == api.TIf && slices.Contains(may, "if") {
				taken(t, p.what, l)
			} else {
				refused(t, p.what, l, len(p.ahead))
			}
		}
	}
}
