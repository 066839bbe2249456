package print

import (
	"strings"
	"testing"

	"tableau/api"
)

// sample: an expression of an Op, its text, its rank, and the ranks that it wants of its kids.
type sample struct {
	rank   int
	wanted []int
	with   func(kids ...plant) plant
	text   string // L and R: the kids
}

// samples are the document's table, a row for each Op.
func samples() []sample {
	plain := func(op int8) func(kids ...plant) plant {
		return func(kids ...plant) plant { return node(op, kids...) }
	}
	called := func(op int8, s string) func(kids ...plant) plant {
		return func(kids ...plant) plant { return named(op, s, kids...) }
	}
	l := []sample{
		{3, []int{3}, plain(api.TNot), "!L"}, {7, []int{7}, plain(api.TNeg), "-L"}, {8, []int{8}, called(api.TField, "hit"), "L.hit"},
		{8, nil, called(api.TCall, "f"), "f()"}, {8, []int{1}, called(api.TCall, "g"), "g(L)"}, {8, []int{1, 1}, called(api.TCall, "h"), "h(L, R)"},
		{8, nil, plain(api.TTrue), "true"}, {8, nil, plain(api.TFalse), "false"}, {8, nil, plain(api.TNum), "0"}, {8, nil, called(api.TName, "a"), "a"},
	}
	between := func(rank, left, right int, first int8, marks string) {
		for i, m := range strings.Fields(marks) {
			l = append(l, sample{rank, []int{left, right}, plain(first + int8(i)), "L " + m + " R"})
		}
	}
	between(1, 1, 2, api.TOr, "||")
	between(2, 2, 3, api.TAnd, "&&")
	between(4, 5, 5, api.TEq, "== != < <= > >=")
	between(5, 5, 6, api.TAdd, "+ -")
	between(6, 6, 7, api.TMul, "* / %")
	return l
}

// piece: an expression with its text and its rank.
type piece struct {
	plant
	text string
	rank int
}

func someName(s string) piece { return piece{name(s), s, 8} }

// of makes the expression with these kids; in its text parentheses stand about a kid just if its rank is below what is wanted there.
func (s sample) of(kids ...piece) piece {
	kids = kids[:len(s.wanted)]
	p := piece{text: s.text, rank: s.rank}
	var plants []plant
	for i, k := range kids {
		if k.rank < s.wanted[i] {
			k.text = "(" + k.text + ")"
		}
		p.text = strings.Replace(p.text, []string{"L", "R"}[i], k.text, 1)
		plants = append(plants, k.plant)
	}
	p.plant = s.with(plants...)
	return p
}

func (s sample) flat() piece { return s.of(someName("x"), someName("y")) }

// at makes the expression with a kid at one of its places.
func (s sample) at(place int, kid piece) piece {
	kids := []piece{someName("x"), someName("y")}
	kids[place] = kid
	return s.of(kids...)
}

// wantPiece says the text of an expression where any may stand.
func wantPiece(t *testing.T, p piece) {
	t.Helper()
	wantSource(t, ability(named(api.TSet, "q", p.plant)), rows("\ton play {", "\t\tq = "+p.text+";", "\t}"))
}

// TestEveryKidAtEveryPlace: where parentheses stand and where they do not, of each pair of a node and a kid, on each side.
func TestEveryKidAtEveryPlace(t *testing.T) {
	pairs := 0
	for _, outer := range samples() {
		e := outer.flat()
		wantExpr(t, e.plant, e.text)
		for place := range outer.wanted {
			for _, inner := range samples() {
				e := outer.at(place, inner.flat())
				wantExpr(t, e.plant, e.text)
				pairs++
			}
		}
	}
	if pairs != (13*2+3+1+2)*23 {
		t.Errorf("%d pairs are too few", pairs)
	}
}

// TestKidsOfKids: a kid at both sides at once, and three levels, at each place of each.
func TestKidsOfKids(t *testing.T) {
	all := samples()
	for _, a := range all {
		for _, b := range all {
			for _, c := range all {
				if len(a.wanted) == 2 {
					wantPiece(t, a.of(b.flat(), c.flat()))
				}
				for i := range a.wanted {
					for j := range b.wanted {
						wantPiece(t, a.at(i, b.at(j, c.flat())))
					}
				}
			}
		}
	}
}

// TestRowsAndChains: the left ones belong together, without parentheses; the right ones stand in them.
func TestRowsAndChains(t *testing.T) {
	for _, s := range samples() {
		left, right := someName("x"), someName("x")
		for range 60 {
			if len(s.wanted) > 0 {
				left = s.at(0, left)
				wantPiece(t, left)
			}
			if len(s.wanted) > 1 {
				right = s.at(1, right)
				wantPiece(t, right)
			}
		}
	}
}
