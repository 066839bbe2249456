package state

import (
	"math"
	"math/rand"
	"reflect"
	"slices"
	"testing"

	"tableau/api"
)

// deckOf is a deck of so many cards, each another one, with owners that are none.
func deckOf(many, first int) []api.Card {
	deck := make([]api.Card, many)
	for i := range deck {
		n := first + i
		deck[i] = api.Card{Kind: n % api.MaxKinds, Owner: n*31 - 500, Power: int32(n), Health: int32(2 * n), Damage: int32(-n), Marks: 7}
	}
	return deck
}

// decksOf are decks of so many cards each.
func decksOf(many ...int) [][]api.Card {
	decks := make([][]api.Card, len(many))
	first := 0
	for p, n := range many {
		decks[p] = deckOf(n, first)
		first += n
	}
	return decks
}

// wantBegin looks whether the state is the one that the document says of these decks.
func wantBegin(t *testing.T, s api.State, decks [][]api.Card, life, energy int32) {
	t.Helper()
	if len(s.Players) != len(decks) || len(s.Zones) != 4*len(decks) {
		t.Fatalf("P5.4: of %d decks %d players, %d zones", len(decks), len(s.Players), len(s.Zones))
	}
	card := 0
	for p, deck := range decks {
		if want := (api.Player{Life: life, Energy: energy}); s.Players[p] != want {
			t.Errorf("P5.4: the player %d is %v, not %v", p, s.Players[p], want)
		}
		numbers := []int{}
		for _, want := range deck {
			want.Owner = p
			if card >= len(s.Cards) || s.Cards[card] != want {
				t.Fatalf("P5.4: the card %d is not %v", card, want)
			}
			numbers = append(numbers, card)
			card++
		}
		if got := s.Zones[4*p+api.Deck]; !slices.Equal(got, numbers) {
			t.Errorf("P5.4: the deck of %d is %v, not %v", p, got, numbers)
		}
		for _, z := range []int{api.Hand, api.Board, api.Grave} {
			if len(s.Zones[4*p+z]) != 0 {
				t.Errorf("P5.4: the zone %d of %d is %v", z, p, s.Zones[4*p+z])
			}
		}
	}
	if len(s.Cards) != card {
		t.Errorf("P5.4: %d cards, not %d", len(s.Cards), card)
	}
	if s.Turn != 1 || s.Whose != 0 || s.End != api.Going || s.Winner != 0 {
		t.Errorf("P5.4: Turn %d, Whose %d, End %d, Winner %d", s.Turn, s.Whose, s.End, s.Winner)
	}
	wantCheck(t, "what New answers", s, -1)
}

func TestNewOfTheExamples(t *testing.T) {
	s, e := New([][]api.Card{{{Kind: 1, Owner: 7}}, {{Kind: 2}, {Kind: 2}}}, 20, 0)
	want := api.State{
		Players: []api.Player{{Life: 20}, {Life: 20}},
		Cards:   []api.Card{{Kind: 1}, {Kind: 2, Owner: 1}, {Kind: 2, Owner: 1}},
		Zones:   [][]int{{0}, nil, nil, nil, {1, 2}, nil, nil, nil},
		Turn:    1,
	}
	if e != api.OK || !Same(s, want) {
		t.Errorf("P5.4: %d, %v, not %v", e, s, want)
	}
	wantNone(t, "one deck", [][]api.Card{{{}}}, 20, 0)
	wantNone(t, "two without cards", [][]api.Card{nil, {}}, 20, 0)
	wantNone(t, "life beyond", decksOf(1, 2), 1000000001, 0)
}

// wantNone looks whether New refuses, and answers nothing beside.
func wantNone(t *testing.T, what string, decks [][]api.Card, life, energy int32) {
	t.Helper()
	if s, e := New(decks, life, energy); e != api.ErrArg || !reflect.DeepEqual(s, api.State{}) {
		t.Errorf("P5.4: %s: %d, %v", what, e, s)
	}
}

func TestNewOfManySizes(t *testing.T) {
	for _, many := range [][]int{
		{1, 0}, {0, 1}, {1, 1}, {3, 5}, {0, 0, 1}, {1, 0, 0, 0}, {0, 0, 0, 1}, {2, 3, 4, 5},
		{256, 0}, {0, 256}, {128, 128}, {64, 64, 64, 64}, {0, 0, 0, 256}, {253, 1, 1, 1}, {100, 100, 56},
	} {
		for _, n := range [][2]int32{{20, 0}, {0, 0}, {api.MaxStat, -api.MaxStat}, {-api.MaxStat, api.MaxStat}} {
			decks := decksOf(many...)
			s, e := New(decks, n[0], n[1])
			if e != api.OK {
				t.Errorf("P5.4: of decks of %v: %d", many, e)
				continue
			}
			wantBegin(t, s, decks, n[0], n[1])
		}
	}
}

func TestNewOfSizesThatAreNone(t *testing.T) {
	for _, many := range [][]int{
		nil, {}, {1}, {256}, {0, 0}, {0, 0, 0}, {0, 0, 0, 0}, {1, 1, 1, 1, 1}, {0, 0, 0, 0, 1}, {1, 1, 1, 1, 0},
		{257, 0}, {0, 257}, {256, 1}, {1, 256}, {128, 129}, {64, 64, 64, 65}, {0, 0, 0, 257}, {5000, 5000}, make([]int, 100),
	} {
		wantNone(t, "decks that are none", decksOf(many...), 20, 0)
	}
}

func TestNewOfNumbersBeyond(t *testing.T) {
	for _, bad := range []int32{api.MaxStat + 1, -api.MaxStat - 1, math.MaxInt32, math.MinInt32} {
		wantNone(t, "life", decksOf(1, 2), bad, 0)
		wantNone(t, "energy", decksOf(1, 2), 0, bad)
		for p := range 3 {
			for i := range 2 {
				for what, turn := range map[string]func(c *api.Card){
					"Power":  func(c *api.Card) { c.Power = bad },
					"Health": func(c *api.Card) { c.Health = bad },
					"Damage": func(c *api.Card) { c.Damage = bad },
					"Marks":  func(c *api.Card) { c.Marks = bad },
				} {
					decks := decksOf(2, 2, 2)
					turn(&decks[p][i])
					wantNone(t, what, decks, 20, 0)
				}
			}
		}
	}
	for _, bad := range []int{-1, api.MaxKinds, math.MaxInt, math.MinInt} {
		for p := range 3 {
			for i := range 2 {
				decks := decksOf(2, 2, 2)
				decks[p][i].Kind = bad
				wantNone(t, "Kind", decks, 20, 0)
			}
		}
	}
}

func TestNewAtTheEdges(t *testing.T) {
	for _, c := range []api.Card{
		{Kind: 0, Owner: -1, Power: api.MaxStat, Health: api.MaxStat, Damage: api.MaxStat, Marks: api.MaxStat},
		{Kind: api.MaxKinds - 1, Owner: math.MaxInt, Power: -api.MaxStat, Health: -api.MaxStat, Damage: -api.MaxStat, Marks: -api.MaxStat},
		{Owner: math.MinInt},
		{Owner: 4},
	} {
		for _, decks := range [][][]api.Card{{{c}, nil}, {nil, {c}}, {{c, {}}, {c}, {{}, c}}} {
			s, e := New(decks, 1, 2)
			if e != api.OK {
				t.Errorf("P5.4: of the card %v: %d", c, e)
				continue
			}
			wantBegin(t, s, decks, 1, 2)
		}
	}
}

func TestNewOfChance(t *testing.T) {
	r := rand.New(rand.NewSource(6))
	for range 2000 {
		many := make([]int, 1+r.Intn(5))
		all := 0
		for p := range many {
			many[p] = r.Intn(90)
			all += many[p]
		}
		decks := decksOf(many...)
		if len(many) < 2 || len(many) > 4 || all < 1 || all > 256 {
			wantNone(t, "of chance", decks, 5, 6)
			continue
		}
		s, e := New(decks, 5, 6)
		if e != api.OK {
			t.Fatalf("P5.4: of decks of %v: %d", many, e)
		}
		wantBegin(t, s, decks, 5, 6)
	}
}

// roomyDecks are the decks with spare room behind each list, in which something stands.
func roomyDecks(decks [][]api.Card) [][]api.Card {
	l := make([][]api.Card, len(decks))
	for p := range l {
		l[p] = withRoom(decks[p], api.Card{Kind: 77})
	}
	return withRoom(l, []api.Card{{Kind: 77}})
}

// wholeDecks are the decks with their spare room, in memory of their own.
func wholeDecks(decks [][]api.Card) [][]api.Card {
	l := [][]api.Card{}
	for _, deck := range decks[:cap(decks)] {
		l = append(l, slices.Clone(deck[:cap(deck)]))
	}
	return l
}

func TestNewHasItsOwnMemory(t *testing.T) {
	for _, many := range [][]int{{2, 3}, {0, 1, 0, 5}, {0, 256}, {1, 1, 300}, {1}} {
		decks := roomyDecks(decksOf(many...))
		before := wholeDecks(decks)
		s, e := New(decks, 20, 3)
		if !reflect.DeepEqual(before, wholeDecks(decks)) {
			t.Errorf("P5.4: decks of %v have changed (R5)", many)
		}
		if e != api.OK {
			continue
		}
		kept := Copy(s)
		for _, deck := range decks[:cap(decks)] {
			clear(deck[:cap(deck)])
		}
		clear(decks[:cap(decks)])
		if !Same(s, kept) {
			t.Errorf("P5.4: the state of decks of %v keeps them (R5)", many)
		}
		decks = roomyDecks(decksOf(many...))
		s, _ = New(decks, 20, 3)
		again, _ := New(decks, 20, 3)
		wantApart(t, "P5.4: what New answers", s)
		if !Same(again, kept) || !reflect.DeepEqual(before, wholeDecks(decks)) {
			t.Errorf("P5.4: decks of %v or another state share memory with the one that was spoiled (R5)", many)
		}
	}
}

func TestNewOfOneDeckTwice(t *testing.T) {
	deck := deckOf(3, 4)
	decks := [][]api.Card{deck, deck, deck[1:]}
	s, e := New(decks, 2, 1)
	if e != api.OK {
		t.Fatalf("P5.4: of one deck twice: %d", e)
	}
	wantBegin(t, s, decks, 2, 1)
}
