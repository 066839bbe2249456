package parse

import (
	"slices"
	"strings"
	"testing"
	"unsafe"

	"tableau/api"
)

// givenList: a call, and what it is given.
type givenList struct {
	parse call
	list  []api.Token
}

// givenLists are some that are parsed, some that are refused, for each of the reasons.
func givenLists() []givenList {
	var l []givenList
	for _, src := range []string{
		"", `card "A" { }`, `card "A" { cost 1; tag "x"; on hit when a.b + f(deck, "y") * -1 { let x = 1; if a { } else if !b { stop; } else { x = (a - b) * c; draw(me); } } } card "B" { }`,
		`card "A" {`, "card a", `card "A" { } ;`, inBlockHead + strings.Repeat("if a { ", 70), inBlockHead + "f(1 2);" + inBlockTail,
	} {
		l = append(l, givenList{Pack, cut(src)})
	}
	for _, src := range []string{"a", "a - 1 + b * c.power", "f(hand, \"text\", g(x.y.z))", "!(a || b) && -c < 1", "", "a +", "deck", strings.Repeat("(", 65), "1" + strings.Repeat("+1", 70)} {
		l = append(l, givenList{Expr, cut(src)})
	}
	none := cut("a b c")
	return append(l, givenList{Pack, nil}, givenList{Expr, none[:2]}, givenList{Pack, []api.Token{{Kind: 9}, {}}}, givenList{Expr, []api.Token{{}, {}}})
}

// roomy is the list with spare room behind it, in which more tokens stand.
func roomy(l []api.Token) []api.Token {
	whole := slices.Concat(l, cut("+ ( card")[:3], []api.Token{{Kind: -1, Text: "spare", Num: -1, At: -1}, {}})
	return whole[:len(l)]
}

// spoil writes over all of the nodes, spare room too.
func spoil(l []api.Node) {
	l = l[:cap(l)]
	for i := range l {
		l[i] = api.Node{Op: -9, Kind: -9, N: -9, M: -9, Text: "spoiled", At: -9, Kids: -9}
	}
}

func TestWhatWasGivenStaysAsItWas(t *testing.T) {
	for _, x := range givenLists() {
		l := roomy(x.list)
		before := slices.Clone(l[:cap(l)])
		for _, parse := range []call{Pack, Expr} {
			n, _, _ := parse(l)
			spoil(n)
			if !slices.Equal(l[:cap(l)], before) {
				t.Errorf("P10: %s is changed (R5)", shown(x.list))
			}
		}
	}
}

// TestSpareRoomIsNoPartOfTheList: a list ends where it ends, whatever stands behind it in memory.
func TestSpareRoomIsNoPartOfTheList(t *testing.T) {
	for _, x := range givenLists() {
		n, e, at := x.parse(slices.Clip(slices.Clone(x.list)))
		m, f, place := x.parse(roomy(x.list))
		if !slices.Equal(n, m) || e != f || at != place {
			t.Errorf("P10: %s with spare room: %s, %d, %d; not %s, %d, %d", shown(x.list), text(m), f, place, text(n), e, at)
		}
	}
}

func TestTreesHaveTheirOwnMemory(t *testing.T) {
	for _, x := range givenLists() {
		l := slices.Clone(x.list)
		first, e, at := x.parse(l)
		second, _, _ := x.parse(l)
		want := slices.Clone(first)
		for i := range l {
			l[i] = api.Token{Kind: -9, Text: "spoiled", Num: -9, At: -9}
		}
		if !slices.Equal(first, want) {
			t.Errorf("P10: the tree of %s is another one behind the list was spoiled (R5)", shown(x.list))
		}
		spoil(first)
		if !slices.Equal(second, want) {
			t.Errorf("P10: the tree of %s is another one behind the first one was spoiled (R5)", shown(x.list))
		}
		spoil(second)
		if third, f, place := x.parse(x.list); !slices.Equal(third, want) || f != e || place != at {
			t.Errorf("P10: %s: another answer the next time (R6)", shown(x.list))
		}
	}
}

func TestTextsHaveTheirOwnMemory(t *testing.T) {
	for _, x := range givenLists() {
		given := map[*byte]bool{}
		for _, k := range x.list {
			if k.Text != "" {
				given[unsafe.StringData(k.Text)] = true
			}
		}
		n, _, _ := x.parse(x.list)
		for _, node := range n {
			if node.Text != "" && given[unsafe.StringData(node.Text)] {
				t.Errorf("P10: %s: the text %s shares memory with a token (R5)", shown(x.list), node.Text)
			}
		}
	}
}

// TestRefusedListsHaveNoNodes: beside an error all else is zero (R2).
func TestRefusedListsHaveNoNodes(t *testing.T) {
	refused := 0
	for _, x := range givenLists() {
		n, e, at := x.parse(x.list)
		if e == api.OK && at != 0 || e != api.OK && n != nil || e == api.ErrArg && at != 0 {
			t.Errorf("P10: %s: %d nodes, %d, %d (R2)", shown(x.list), len(n), e, at)
		}
		if e != api.OK {
			refused++
		}
	}
	if refused < 10 {
		t.Errorf("too few lists are refused: %d", refused)
	}
}

// TestLongLists: time goes up with the number of tokens alone, wherever a row's marks stand.
func TestLongLists(t *testing.T) {
	const many = 100000
	head, more, tail := cut(strings.Repeat("(", 62)+"f(1"), cut(", 1"), cut(")"+strings.Repeat("+ 1 * 2 - 3)", 62)+strings.Repeat("+ 1", 65))
	l := slices.Concat(head[:len(head)-1], slices.Repeat(more[:2], many), tail)
	n, e, at := Expr(l)
	if e != api.OK || len(n) != 1+1+many+62*6+65*2 {
		t.Errorf("P10.2: a long list: %d nodes, %d, %d", len(n), e, at)
	}
}
