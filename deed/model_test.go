package deed

import (
	"math"
	"math/rand"
	"slices"
	"testing"

	"tableau/api"
)

// start is the document's state S.
func start() api.State {
	s := api.State{
		Players: []api.Player{{Life: 20}, {Life: 20}},
		Zones:   [][]int{{0, 1}, {2}, nil, nil, nil, nil, {3}, nil},
		Turn:    1,
	}
	for _, owner := range []int{0, 0, 0, 1} {
		s.Cards = append(s.Cards, api.Card{Owner: owner, Power: 1, Health: 2})
	}
	return s
}

// dealt is a state that may be, its cards laid out over all zones, the last ones first.
func dealt(players, cards int) api.State {
	s := api.State{Players: make([]api.Player, players), Zones: make([][]int, 4*players), Turn: 7, Whose: players - 1}
	for p := range s.Players {
		s.Players[p] = api.Player{Life: int32(20 + p), Energy: int32(-p), Out: p%2 == 1}
	}
	for c := range cards {
		s.Cards = append(s.Cards, api.Card{Kind: c % api.MaxKinds, Owner: c % players, Power: int32(c), Health: 2, Damage: -3, Marks: int32(-c)})
	}
	for c := cards - 1; c >= 0; c-- {
		z := (c * 7) % len(s.Zones)
		s.Zones[z] = append(s.Zones[z], c)
	}
	return s
}

// piled is a state that may be, all of its cards in one zone, in their order.
func piled(players, cards, zone int) api.State {
	s := dealt(players, cards)
	s.Zones = make([][]int, 4*players)
	for c := range cards {
		s.Zones[zone] = append(s.Zones[zone], c)
	}
	return s
}

// wrongStates are states that may not be, each by another thing.
func wrongStates() []api.State {
	l := []api.State{{}}
	for _, spoil := range []func(s *api.State){
		func(s *api.State) { s.Players = s.Players[:1] },
		func(s *api.State) { s.Cards = nil },
		func(s *api.State) { s.Zones = s.Zones[:7] },
		func(s *api.State) { s.Zones = append(s.Zones, nil) },
		func(s *api.State) { s.Players[1].Life = api.MaxStat + 1 },
		func(s *api.State) { s.Cards[3].Owner = 2 },
		func(s *api.State) { s.Cards[0].Damage = -api.MaxStat - 1 },
		func(s *api.State) { s.Zones[7] = []int{2} },
		func(s *api.State) { s.Zones[7] = []int{4} },
		func(s *api.State) { s.Zones[6] = nil },
		func(s *api.State) { s.Turn = 0 },
		func(s *api.State) { s.Whose = 2 },
		func(s *api.State) { s.End = 3 },
		func(s *api.State) { s.Winner = 1 },
		func(s *api.State) { s.End, s.Winner = api.Won, -1 },
	} {
		s := start()
		spoil(&s)
		l = append(l, s)
	}
	return l
}

// clone is the state in memory of its own, with empty lists in the place of nil.
func clone(s api.State) api.State {
	s.Players = append([]api.Player{}, s.Players...)
	s.Cards = append([]api.Card{}, s.Cards...)
	zones := [][]int{}
	for _, zone := range s.Zones {
		zones = append(zones, append([]int{}, zone...))
	}
	s.Zones = zones
	return s
}

// same tells whether two states are the same, nil and an empty list being one.
func same(a, b api.State) bool {
	return slices.Equal(a.Players, b.Players) && slices.Equal(a.Cards, b.Cards) && slices.EqualFunc(a.Zones, b.Zones, slices.Equal[[]int]) &&
		a.Turn == b.Turn && a.Whose == b.Whose && a.End == b.End && a.Winner == b.Winner
}

// sameEvent tells whether two events are the same, nil and an empty order being one.
func sameEvent(a, b api.Event) bool {
	return plain(a) == plain(b) && slices.Equal(a.Order, b.Order)
}

// plain are all numbers of an event but its order.
func plain(e api.Event) [11]int {
	return [11]int{int(e.Kind), int(e.Field), e.Card, e.Player, e.Other, e.From, e.FromAt, e.To, e.ToAt, int(e.Was), int(e.Now)}
}

// named tells by the places in plain which numbers the kind of an event names.
func named(kind int8) []int {
	switch kind {
	case api.EvMove:
		return []int{2, 5, 6, 7, 8}
	case api.EvCard:
		return []int{1, 2, 9, 10}
	case api.EvPlayer:
		return []int{1, 3, 9, 10}
	case api.EvShuffle:
		return []int{5}
	case api.EvOut:
		return []int{3}
	case api.EvTurn:
		return []int{3, 4, 9, 10}
	case api.EvEnd:
		return []int{3, 10}
	}
	return nil
}

// within tells whether n is from 0 to below many.
func within(n, many int) bool {
	return n >= 0 && n < many
}

// modelApply is the state behind the event by the document's words; false, if the event does not fit the state, which may be.
func modelApply(s api.State, e api.Event) (api.State, bool) {
	for i, n := range plain(e) {
		if i > 0 && n != 0 && !slices.Contains(named(e.Kind), i) {
			return api.State{}, false
		}
	}
	if len(e.Order) != 0 && e.Kind != api.EvShuffle {
		return api.State{}, false
	}
	s = clone(s)
	switch e.Kind {
	case api.EvMove:
		return modelMove(s, e)
	case api.EvCard:
		if e.Field < api.FPower || e.Field > api.FMarks || !within(e.Card, len(s.Cards)) {
			return api.State{}, false
		}
		c := &s.Cards[e.Card]
		return modelStat(s, []*int32{&c.Power, &c.Health, &c.Damage, &c.Marks}[e.Field-api.FPower], e)
	case api.EvPlayer:
		if e.Field < api.FLife || e.Field > api.FEnergy || !within(e.Player, len(s.Players)) {
			return api.State{}, false
		}
		p := &s.Players[e.Player]
		return modelStat(s, []*int32{&p.Life, &p.Energy}[e.Field-api.FLife], e)
	case api.EvShuffle:
		return modelShuffle(s, e)
	case api.EvOut:
		if !within(e.Player, len(s.Players)) || s.Players[e.Player].Out {
			return api.State{}, false
		}
		s.Players[e.Player].Out = true
		return s, true
	case api.EvTurn:
		fits := e.Was == s.Turn && e.Player == s.Whose && within(e.Other, len(s.Players)) && int64(e.Now) == int64(e.Was)+1
		s.Turn, s.Whose = e.Now, e.Other
		return s, fits
	case api.EvEnd:
		won := e.Now == 1 && within(e.Player, len(s.Players))
		drawn := e.Now == 2 && e.Player == 0
		fits := s.End == 0 && (won || drawn)
		s.End, s.Winner = int8(e.Now), e.Player
		return s, fits
	}
	return api.State{}, false
}

func modelMove(s api.State, e api.Event) (api.State, bool) {
	if !within(e.From, len(s.Zones)) || !within(e.To, len(s.Zones)) || !within(e.FromAt, len(s.Zones[e.From])) || s.Zones[e.From][e.FromAt] != e.Card {
		return api.State{}, false
	}
	without := [][]int{}
	for _, zone := range s.Zones {
		left := []int{}
		for _, c := range zone {
			if c != e.Card {
				left = append(left, c)
			}
		}
		without = append(without, left)
	}
	to := without[e.To]
	if e.ToAt < 0 || e.ToAt > len(to) || e.From == e.To && e.FromAt == e.ToAt {
		return api.State{}, false
	}
	without[e.To] = slices.Concat(to[:e.ToAt], []int{e.Card}, to[e.ToAt:])
	s.Zones = without
	return s, true
}

func modelStat(s api.State, stat *int32, e api.Event) (api.State, bool) {
	if *stat != e.Was || e.Now < -1000000000 || e.Now > 1000000000 || e.Now == e.Was {
		return api.State{}, false
	}
	*stat = e.Now
	return s, true
}

func modelShuffle(s api.State, e api.Event) (api.State, bool) {
	if !within(e.From, len(s.Zones)) || !modelOrder(e.Order, len(s.Zones[e.From])) || slices.IsSorted(e.Order) {
		return api.State{}, false
	}
	zone := []int{}
	for _, n := range e.Order {
		zone = append(zone, s.Zones[e.From][n])
	}
	s.Zones[e.From] = zone
	return s, true
}

// modelOrder tells whether the list has, as often as many, each number from 0 on once.
func modelOrder(order []int, many int) bool {
	for n := range many {
		if !slices.Contains(order, n) {
			return false
		}
	}
	return len(order) == many
}

// wantApply holds Apply against what the document says, and tells whether the event fits.
func wantApply(t *testing.T, s api.State, e api.Event) (api.State, bool) {
	t.Helper()
	want, fits := modelApply(s, e)
	got, err := Apply(s, e)
	if !fits && (err != api.ErrEvent || !isEmpty(got)) {
		t.Fatalf("P6.1: %v on %v: %v, %d, not ErrEvent", e, s, got, err)
	}
	if fits && (err != api.OK || !same(got, want)) {
		t.Fatalf("P6.1: %v on %v: %v, %d, not %v", e, s, got, err, want)
	}
	return want, fits
}

// isEmpty tells whether the state is as empty as beside an error it is to be.
func isEmpty(s api.State) bool {
	return same(s, api.State{})
}

// randomOrder is each number from 0 to below many once; for more than one not in their order.
func randomOrder(r *rand.Rand, many int) []int {
	order := r.Perm(many)
	for many > 1 && slices.IsSorted(order) {
		order = r.Perm(many)
	}
	return order
}

// someStat is a stat, often one of the ends.
func someStat(r *rand.Rand) int32 {
	l := []int32{-api.MaxStat, -1, 0, 1, api.MaxStat, int32(r.Intn(50))}
	return l[r.Intn(len(l))]
}

// someEvent is an event that is made to fit the state, though now and then it doesn't (Now is Was, a zone has no card, the game has ended).
func someEvent(r *rand.Rand, s api.State) api.Event {
	card, player, zone := r.Intn(len(s.Cards)), r.Intn(len(s.Players)), r.Intn(len(s.Zones))
	switch kind := int8(1 + r.Intn(7)); kind {
	case api.EvMove:
		e := api.Event{Kind: kind, Card: card, To: zone}
		for z := range s.Zones {
			if at := slices.Index(s.Zones[z], card); at >= 0 {
				e.From, e.FromAt = z, at
			}
		}
		room := len(s.Zones[zone]) + 1
		if e.From == e.To {
			room--
		}
		e.ToAt = r.Intn(room)
		return e
	case api.EvCard:
		c := s.Cards[card]
		field := r.Intn(4)
		return api.Event{Kind: kind, Field: int8(field + 1), Card: card, Was: []int32{c.Power, c.Health, c.Damage, c.Marks}[field], Now: someStat(r)}
	case api.EvPlayer:
		p := s.Players[player]
		field := r.Intn(2)
		return api.Event{Kind: kind, Field: int8(field + 5), Player: player, Was: []int32{p.Life, p.Energy}[field], Now: someStat(r)}
	case api.EvShuffle:
		return api.Event{Kind: kind, From: zone, Order: randomOrder(r, len(s.Zones[zone]))}
	case api.EvOut:
		return api.Event{Kind: kind, Player: player}
	case api.EvTurn:
		return api.Event{Kind: kind, Was: s.Turn, Player: s.Whose, Other: player, Now: s.Turn + 1}
	default:
		if r.Intn(2) == 0 {
			return api.Event{Kind: kind, Now: int32(api.Drawn)}
		}
		return api.Event{Kind: kind, Now: int32(api.Won), Player: player}
	}
}

// someFitting is an event that fits the state.
func someFitting(r *rand.Rand, s api.State) api.Event {
	for {
		e := someEvent(r, s)
		if _, fits := modelApply(s, e); fits {
			return e
		}
	}
}

// bent is the event with one of its numbers changed, or with one more, one less, or another one in its order.
func bent(r *rand.Rand, e api.Event) api.Event {
	e.Order = slices.Clone(e.Order)
	by := []int{-1, 1, 2, math.MinInt32, math.MaxInt32}[r.Intn(5)]
	switch r.Intn(12) {
	case 0:
		e.Kind += int8(by)
	case 1:
		e.Field += int8(by)
	case 2:
		e.Card += by
	case 3:
		e.Player += by
	case 4:
		e.Other += by
	case 5:
		e.From += by
	case 6:
		e.FromAt += by
	case 7:
		e.To += by
	case 8:
		e.ToAt += by
	case 9:
		e.Was += int32(by)
	case 10:
		e.Now += int32(by)
	default:
		return bentOrder(r, e, by)
	}
	return e
}

func bentOrder(r *rand.Rand, e api.Event, by int) api.Event {
	if len(e.Order) == 0 {
		e.Order = []int{by}
		return e
	}
	switch r.Intn(3) {
	case 0:
		e.Order = append(e.Order, len(e.Order))
	case 1:
		e.Order = e.Order[:len(e.Order)-1]
	default:
		e.Order[r.Intn(len(e.Order))] += by
	}
	return e
}
