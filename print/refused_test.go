package print

import (
	"math"
	"slices"
	"strings"
	"testing"

	"tableau/api"
	"tableau/tree"
)

// wantRefused says that the list is refused with that error, which is tree.Check's, and without bytes.
func wantRefused(t *testing.T, what string, l []api.Node, why api.Errno) {
	t.Helper()
	if e, _ := tree.Check(l); e != why {
		t.Errorf("%s: tree.Check tells %d, not %d", what, e, why)
	}
	if b, e := Tree(l); b != nil || e != why {
		t.Errorf("P11.1: %s: %q, %d; not %d", what, b, e, why)
	}
}

// bigTree has each kind of node.
func bigTree() []api.Node {
	a, stop := name("a"), node(api.TStop)
	marks := a
	for op := api.TOr; op <= api.TRem; op++ {
		marks = node(op, marks, num(1))
	}
	call := named(api.TCall, "f", numbered(api.TWord, 3), named(api.TText, "x\""), marks, node(api.TNot, node(api.TFalse)), node(api.TNeg, named(api.TField, "if", a)))
	on := numbered(api.TOn, api.OnTurn, node(api.TTrue), block(
		named(api.TLet, "x", call), named(api.TSet, "me", num(7)), node(api.TIf, a, block(stop), node(api.TIf, a, block(), block(node(api.TAbort)))),
		loop(3, "i", stop), named(api.TEach, "c", a, block()), named(api.TChoose, "c", a, block(), block(stop)), named(api.TDo, "hit", a, num(2)),
	))
	return node(api.TPack, named(api.TCard, "A", numbered(api.TCost, 1), numbered(api.TPower, 2), numbered(api.THealth, 3), named(api.TTag, "t"), on, numbered(api.TOn, 0, block())), named(api.TCard, "B")).laid()
}

func TestListsThatAreNoTree(t *testing.T) {
	wantRefused(t, "nil", nil, api.ErrTree)
	wantRefused(t, "no nodes", []api.Node{}, api.ErrTree)
	wantRefused(t, "a card alone", []api.Node{{Op: api.TCard, Text: "a"}}, api.ErrTree)
	wantRefused(t, "an expression alone", num(1).laid(), api.ErrTree)
	wantRefused(t, "a node of no kind", []api.Node{{}}, api.ErrTree)
	wantRefused(t, "kids below nought", []api.Node{{Op: api.TPack, Kids: -1}}, api.ErrTree)
	wantRefused(t, "the greatest number of kids", []api.Node{{Op: api.TPack, Kids: math.MaxInt}}, api.ErrTree)
	wantRefused(t, "two packs", []api.Node{{Op: api.TPack}, {Op: api.TPack}}, api.ErrTree)
	wantRefused(t, "an event too great", card(numbered(api.TOn, 5, block())).laid(), api.ErrTree)
	wantRefused(t, "a zone too great", ability(named(api.TSet, "x", named(api.TCall, "f", numbered(api.TWord, 4)))).laid(), api.ErrTree)
	wantRefused(t, "a text with a byte 10", card(named(api.TTag, "\n")).laid(), api.ErrTree)
	wantRefused(t, "a text too long", card(named(api.TTag, strings.Repeat("x", 65))).laid(), api.ErrTree)
	wantRefused(t, "a name that is a word", ability(named(api.TLet, "if", num(1))).laid(), api.ErrTree)
	wantRefused(t, "a number below nought", ability(named(api.TLet, "x", num(-1))).laid(), api.ErrTree)
	wantRefused(t, "a zone's word as an effect's argument", ability(named(api.TDo, "f", numbered(api.TWord, 0))).laid(), api.ErrTree)
	wantRefused(t, "a pack of a block", node(api.TPack, block()).laid(), api.ErrTree)
}

// TestTreesThatAreSpoiled: cut off, with more behind, and with one field of one node another.
func TestTreesThatAreSpoiled(t *testing.T) {
	whole := bigTree()
	if _, e := Tree(whole); e != api.OK {
		t.Fatalf("P11.1: the whole tree: %d", e)
	}
	for n := range whole {
		wantRefused(t, "cut off", whole[:n], api.ErrTree)
	}
	for _, more := range whole {
		wantRefused(t, "more behind", append(slices.Clone(whole), more), api.ErrTree)
	}
	for i := range whole {
		for what, spoil := range map[string]func(n *api.Node){
			"a Kind": func(n *api.Node) { n.Kind = 1 }, "an M": func(n *api.Node) { n.M = -1 }, "a place": func(n *api.Node) { n.At = -1 }, "one kid more": func(n *api.Node) { n.Kids++ }, "fewer kids": func(n *api.Node) { n.Kids -= 9 }, "an Op": func(n *api.Node) { n.Op = 99 }, "an N": func(n *api.Node) { n.N = -1 }, "a text": func(n *api.Node) { n.Text = "\x7f" },
		} {
			l := slices.Clone(whole)
			spoil(&l[i])
			wantRefused(t, what, l, api.ErrTree)
		}
	}
}

func TestTreesTooDeep(t *testing.T) {
	nots := func(n int) plant {
		e := name("a")
		for range n {
			e = node(api.TNot, e)
		}
		return e
	}
	row := func(n int) plant {
		e := name("a")
		for range n {
			e = node(api.TAdd, e, num(1))
		}
		return e
	}
	blocks := func(n int) plant {
		s := node(api.TStop)
		for range n {
			s = node(api.TIf, name("a"), block(s))
		}
		return s
	}
	for what, x := range map[string]struct{ most, over []api.Node }{
		"nots":   {ability(named(api.TSet, "x", nots(63))).laid(), ability(named(api.TSet, "x", nots(64))).laid()},
		"a row":  {ability(named(api.TSet, "x", row(64))).laid(), ability(named(api.TSet, "x", row(65))).laid()},
		"blocks": {ability(blocks(63)).laid(), ability(blocks(64)).laid()},
	} {
		if b, e := Tree(x.most); e != api.OK {
			t.Errorf("P11.1: %s at the limit: %d", what, e)
		} else {
			holdThereAndBack(t, x.most, b)
		}
		wantRefused(t, what, x.over, api.ErrDepth)
		// What is no tree is told first, however deep it is.
		wantRefused(t, what+" and more", append(slices.Clone(x.over), num(1).Node), api.ErrTree)
	}
}

// TestSourcesLongerThanMaxSource: they are printed all the same.
func TestSourcesLongerThanMaxSource(t *testing.T) {
	for _, cards := range []int{5956, 5957, 5958, 6000, 100000} {
		p := node(api.TPack, slices.Repeat([]plant{named(api.TCard, "")}, cards)...)
		l := p.laid()
		b, e := Tree(l)
		if want := strings.Repeat("card \"\" {\n}\n", cards); e != api.OK || string(b) != want {
			t.Errorf("P11.1: %d cards: %d bytes, %d; not %d", cards, len(b), e, len(want))
			continue
		}
		if back, e := parsed(b); len(b) > api.MaxSource && e != api.ErrLong || len(b) <= api.MaxSource && !tree.Same(back, l) {
			t.Errorf("P11.1: %d cards, %d bytes: parsed with %d", cards, len(b), e)
		}
	}
	// Just as long as a source may be, and one byte more.
	for more := range 2 {
		p := node(api.TPack, slices.Repeat([]plant{named(api.TCard, "")}, 5456)...)
		short := api.MaxSource + more - 5456*12
		for short > 0 {
			text := min(short-12, 64)
			if left := short - 12 - text; left > 0 && left < 12 {
				text -= 12
			}
			p.kids = append(p.kids, named(api.TCard, strings.Repeat("x", text)))
			short -= 12 + text
		}
		p.Kids = len(p.kids)
		l := p.laid()
		b, e := Tree(l)
		if e != api.OK || len(b) != api.MaxSource+more || string(b) != modelSource(p) {
			t.Errorf("P11.1: a source of MaxSource bytes and %d: %d bytes, %d", more, len(b), e)
		}
		if back, e := parsed(b); tree.Same(back, l) != (more == 0) || (e == api.OK) != (more == 0) {
			t.Errorf("P11.1: a source of MaxSource bytes and %d: parsed with %d", more, e)
		}
	}
}
