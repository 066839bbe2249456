package deed

import (
	"math"
	"math/big"
	"math/rand"
	"slices"
	"testing"

	"tableau/api"
)

// wantDeed says which events a deed ought to answer, one or none, and that they fit the state.
func wantDeed(t *testing.T, what string, s api.State, got []api.Event, err api.Errno, want ...api.Event) {
	t.Helper()
	if err != api.OK || !slices.EqualFunc(got, want, sameEvent) {
		t.Errorf("P6.4: %s: %v, %d, not %v", what, got, err, want)
		return
	}
	for _, e := range got {
		if _, fits := modelApply(s, e); !fits {
			t.Errorf("P6.4: %s: %v does not fit the state", what, e)
		}
	}
}

// wantRefused says with which error a deed ought to answer nothing.
func wantRefused(t *testing.T, what string, got []api.Event, err, want api.Errno) {
	t.Helper()
	if err != want || len(got) != 0 {
		t.Errorf("P6.4: %s: %v, %d, not %d", what, got, err, want)
	}
}

// placeOf is where the card stands, by a walk of the test's own.
func placeOf(s api.State, card int) (zone, at int) {
	for z, entries := range s.Zones {
		if i := slices.Index(entries, card); i >= 0 {
			return z, i
		}
	}
	return -1, -1
}

// manyStates are states that may be, of all sizes.
func manyStates() []api.State {
	return []api.State{start(), dealt(2, 1), dealt(2, 9), dealt(3, 30), dealt(4, 70), dealt(4, api.MaxCards), piled(2, 1, 0), piled(4, api.MaxCards, 15), piled(3, 4, 5)}
}

func TestMove(t *testing.T) {
	for _, s := range manyStates() {
		for card := range s.Cards {
			for zone := range s.Zones {
				from, at := placeOf(s, card)
				without := slices.DeleteFunc(slices.Clone(s.Zones[zone]), func(c int) bool { return c == card })
				for _, first := range []bool{false, true} {
					to := len(without)
					if first {
						to = 0
					}
					want := []api.Event{{Kind: api.EvMove, Card: card, From: from, FromAt: at, To: zone, ToAt: to}}
					if from == zone && at == to {
						want = nil
					}
					got, err := Move(s, card, zone, first)
					wantDeed(t, "Move", s, got, err, want...)
				}
			}
		}
	}
}

func TestMoveOfNone(t *testing.T) {
	for _, s := range manyStates() {
		cards, zones := len(s.Cards), len(s.Zones)
		for _, first := range []bool{false, true} {
			for _, card := range []int{-1, cards, cards + 1, math.MinInt, math.MaxInt} {
				got, err := Move(s, card, 0, first)
				wantRefused(t, "Move of no card", got, err, api.ErrArg)
			}
			for _, zone := range []int{-1, zones, zones + 1, math.MinInt, math.MaxInt} {
				got, err := Move(s, 0, zone, first)
				wantRefused(t, "Move to no zone", got, err, api.ErrArg)
			}
		}
	}
}

// statOf is that field of the card or of the player.
func statOf(s api.State, field int8, number int) int32 {
	if field <= api.FMarks {
		c := s.Cards[number]
		return []int32{c.Power, c.Health, c.Damage, c.Marks}[field-1]
	}
	p := s.Players[number]
	return []int32{p.Life, p.Energy}[field-5]
}

// sumOf is the sum within the stats, by numbers without ends.
func sumOf(was int32, by int64) int32 {
	sum := new(big.Int).Add(big.NewInt(int64(was)), big.NewInt(by))
	if sum.Cmp(big.NewInt(1000000000)) > 0 {
		return 1000000000
	}
	if sum.Cmp(big.NewInt(-1000000000)) < 0 {
		return -1000000000
	}
	return int32(sum.Int64())
}

// wantChange says what Change of a field that there is ought to answer.
func wantChange(t *testing.T, s api.State, field int8, number int, by int64) {
	t.Helper()
	was := statOf(s, field, number)
	e := api.Event{Kind: api.EvPlayer, Field: field, Player: number, Was: was, Now: sumOf(was, by)}
	if field <= api.FMarks {
		e.Kind, e.Card, e.Player = api.EvCard, number, 0
	}
	want := []api.Event{e}
	if e.Was == e.Now {
		want = nil
	}
	got, err := Change(s, field, number, by)
	wantDeed(t, "Change", s, got, err, want...)
}

func TestChange(t *testing.T) {
	bys := []int64{0, 1, -1, 5, -20, 999999999, 1000000000, 1000000001, -1000000000, -1000000001, 1999999999, 2000000000, 2000000001, -2000000000, -2000000001, math.MaxInt32, math.MinInt32, 1 << 32, 1<<32 + 1, -1 << 32, math.MaxInt64, math.MaxInt64 - 1, math.MinInt64, math.MinInt64 + 1}
	for _, s := range manyStates() {
		for field := api.FPower; field <= api.FEnergy; field++ {
			number := len(s.Players)
			if field <= api.FMarks {
				number = len(s.Cards)
			}
			for _, n := range []int{0, number / 2, number - 1} {
				for _, by := range bys {
					wantChange(t, s, field, n, by)
				}
			}
		}
	}
	stats, _ := oddStats()
	for _, stat := range stats {
		s := start()
		for c := range s.Cards {
			s.Cards[c] = api.Card{Power: stat, Health: stat, Damage: stat, Marks: stat}
		}
		s.Players[1] = api.Player{Life: stat, Energy: stat}
		for field := api.FPower; field <= api.FEnergy; field++ {
			for _, by := range bys {
				wantChange(t, s, field, 1, by)
			}
		}
	}
}

func TestChangeOfNone(t *testing.T) {
	for _, s := range manyStates() {
		for field := -128; field <= 127; field++ {
			many := 0
			if 1 <= field && field <= 4 {
				many = len(s.Cards)
			} else if field == 5 || field == 6 {
				many = len(s.Players)
			}
			for _, n := range []int{-1, many, many + 1, math.MinInt, math.MaxInt} {
				got, err := Change(s, int8(field), n, 1)
				wantRefused(t, "Change of none", got, err, api.ErrArg)
			}
			if many == 0 {
				got, err := Change(s, int8(field), 0, 0)
				wantRefused(t, "Change of no field", got, err, api.ErrArg)
			}
		}
	}
}

// TestChangesAddUp: Change by a and then by b, neither at the end of the stats, is Change by a and b.
func TestChangesAddUp(t *testing.T) {
	r := rand.New(rand.NewSource(12))
	after := func(s api.State, field int8, by int64) api.State {
		l, _ := Change(s, field, 1, by)
		s, _, err := Replay(s, l)
		if err != api.OK {
			t.Fatalf("P6.4: %v does not fit: %d", l, err)
		}
		return s
	}
	for range 500 {
		field, a, b := int8(1+r.Intn(6)), r.Int63n(1000)-500, r.Int63n(100000)-50000
		s := dealt(2, 4)
		if twice, once := after(after(s, field, a), field, b), after(s, field, a+b); !same(twice, once) {
			t.Fatalf("P6.4: Change by %d and by %d: %v, not %v", a, b, twice, once)
		}
	}
}

func TestShuffle(t *testing.T) {
	s := piled(2, 3, 6)
	s.Zones[6], s.Zones[3] = []int{2, 0, 1}, nil
	for zone := -1; zone <= 8; zone++ {
		for _, order := range orders(4, 3) {
			got, err := Shuffle(s, zone, order)
			if !within(zone, 8) || !modelOrder(order, len(s.Zones[zone])) {
				wantRefused(t, "Shuffle by none", got, err, api.ErrArg)
				continue
			}
			if slices.IsSorted(order) {
				wantDeed(t, "Shuffle of nothing", s, got, err)
				continue
			}
			wantDeed(t, "Shuffle", s, got, err, api.Event{Kind: api.EvShuffle, From: zone, Order: order})
		}
	}
}

func TestShuffleOfMany(t *testing.T) {
	r := rand.New(rand.NewSource(13))
	s := piled(4, api.MaxCards, 15)
	for range 50 {
		order := randomOrder(r, api.MaxCards)
		got, err := Shuffle(s, 15, order)
		wantDeed(t, "Shuffle of all cards", s, got, err, api.Event{Kind: api.EvShuffle, From: 15, Order: order})
		i, k := r.Intn(256), r.Intn(255)
		order[i] = order[(i+1+k)%256]
		got, err = Shuffle(s, 15, order)
		wantRefused(t, "Shuffle by an order with one number twice", got, err, api.ErrArg)
	}
	for _, zone := range []int{-1, 16, math.MinInt, math.MaxInt} {
		got, err := Shuffle(s, zone, nil)
		wantRefused(t, "Shuffle of no zone", got, err, api.ErrArg)
	}
	for _, many := range []int{0, 255, 257, 70000} {
		got, err := Shuffle(s, 15, r.Perm(many))
		wantRefused(t, "Shuffle by an order of another length", got, err, api.ErrArg)
	}
}

func TestDraw(t *testing.T) {
	for _, s := range manyStates() {
		for player := range s.Players {
			got, err := Draw(s, player)
			deck, hand := s.Zones[4*player], s.Zones[4*player+1]
			if len(deck) == 0 {
				wantDeed(t, "Draw from an empty deck", s, got, err)
				continue
			}
			wantDeed(t, "Draw", s, got, err, api.Event{Kind: api.EvMove, Card: deck[0], From: 4 * player, To: 4*player + 1, ToAt: len(hand)})
		}
		for _, player := range []int{-1, len(s.Players), math.MinInt, math.MaxInt} {
			got, err := Draw(s, player)
			wantRefused(t, "Draw of no player", got, err, api.ErrArg)
		}
	}
}

func TestOut(t *testing.T) {
	for _, s := range manyStates() {
		for player, p := range s.Players {
			got, err := Out(s, player)
			if p.Out {
				wantDeed(t, "Out of one that is out", s, got, err)
				continue
			}
			wantDeed(t, "Out", s, got, err, api.Event{Kind: api.EvOut, Player: player})
		}
		for _, player := range []int{-1, len(s.Players), math.MinInt, math.MaxInt} {
			got, err := Out(s, player)
			wantRefused(t, "Out of no player", got, err, api.ErrArg)
		}
	}
}

// TestDeedsOnStatesThatMayNotBe has arguments that are wrong, too: ErrState comes first.
func TestDeedsOnStatesThatMayNotBe(t *testing.T) {
	for _, s := range wrongStates() {
		for _, n := range []int{0, -1, 99} {
			got, err := Move(s, n, n, false)
			wantRefused(t, "Move", got, err, api.ErrState)
			got, err = Move(s, n, 0, true)
			wantRefused(t, "Move", got, err, api.ErrState)
			got, err = Change(s, api.FPower, n, 1)
			wantRefused(t, "Change", got, err, api.ErrState)
			got, err = Change(s, int8(n), 0, 1)
			wantRefused(t, "Change", got, err, api.ErrState)
			got, err = Shuffle(s, n, []int{1, 0})
			wantRefused(t, "Shuffle", got, err, api.ErrState)
			got, err = Draw(s, n)
			wantRefused(t, "Draw", got, err, api.ErrState)
			got, err = Out(s, n)
			wantRefused(t, "Out", got, err, api.ErrState)
		}
	}
}

func TestExamplesOfDeeds(t *testing.T) {
	s := start()
	got, err := Move(s, 2, 2, false)
	wantDeed(t, "Move of 2 to the board", s, got, err, api.Event{Kind: api.EvMove, Card: 2, From: 1, To: 2})
	got, err = Move(s, 2, 1, true)
	wantDeed(t, "Move of 2 to where it stands", s, got, err)
	got, err = Move(s, 0, 0, false)
	wantDeed(t, "Move of 0 to the deck's end", s, got, err, api.Event{Kind: api.EvMove, ToAt: 1})
	got, err = Move(s, 4, 0, false)
	wantRefused(t, "Move of 4", got, err, api.ErrArg)
	got, err = Draw(s, 0)
	wantDeed(t, "Draw of 0", s, got, err, api.Event{Kind: api.EvMove, To: 1, ToAt: 1})
	got, err = Draw(s, 1)
	wantDeed(t, "Draw of 1", s, got, err)
	got, err = Draw(s, 2)
	wantRefused(t, "Draw of 2", got, err, api.ErrArg)
	got, err = Change(s, api.FDamage, 3, 5)
	wantDeed(t, "damage 0 to 5", s, got, err, api.Event{Kind: api.EvCard, Field: api.FDamage, Card: 3, Now: 5})
	got, err = Change(s, api.FLife, 1, math.MinInt64)
	wantDeed(t, "life to its end", s, got, err, api.Event{Kind: api.EvPlayer, Field: api.FLife, Player: 1, Was: 20, Now: -1000000000})
	got, err = Change(s, api.FPower, 0, 0)
	wantDeed(t, "Change by 0", s, got, err)
	got, err = Change(s, 7, 0, 1)
	wantRefused(t, "Change of the field 7", got, err, api.ErrArg)
	got, err = Shuffle(s, 0, []int{1, 0})
	wantDeed(t, "Shuffle", s, got, err, api.Event{Kind: api.EvShuffle, Order: []int{1, 0}})
	got, err = Shuffle(s, 0, []int{0, 1})
	wantDeed(t, "Shuffle by 0 1", s, got, err)
	got, err = Shuffle(s, 3, nil)
	wantDeed(t, "Shuffle of an empty zone", s, got, err)
	got, err = Shuffle(s, 0, []int{0, 0})
	wantRefused(t, "Shuffle by 0 0", got, err, api.ErrArg)
}
