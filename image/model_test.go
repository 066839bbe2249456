package image

import (
	"encoding/binary"
	"math"
	"math/rand"
	"slices"

	"tableau/api"
)

// small is the document's state S.
func small() api.State {
	return api.State{
		Players: make([]api.Player, 2),
		Cards:   []api.Card{{Kind: 3}, {Owner: 1}},
		Zones:   [][]int{{0}, nil, nil, nil, nil, nil, {1}, nil},
		Turn:    1,
	}
}

// smallImage is the document's image of S, as it is written out there.
func smallImage() []byte {
	return slices.Concat(
		[]byte{0x54, 0x42, 0x4c, 0x53, 0x01}, []byte{0x02}, make([]byte, 18),
		[]byte{0x00, 0x02}, []byte{0x00, 0x03, 0x00}, make([]byte, 16), []byte{0x00, 0x00, 0x01}, make([]byte, 16),
		[]byte{0x00, 0x01, 0x00, 0x00}, make([]byte, 10), []byte{0x00, 0x01, 0x00, 0x01}, []byte{0x00, 0x00},
		[]byte{0x00, 0x00, 0x00, 0x01, 0x00, 0x00, 0x00},
	)
}

// dealt is a state that may be, its cards laid out over all zones, the last ones first; with 0 cards it is one that may not.
func dealt(players, cards int) api.State {
	s := api.State{Players: make([]api.Player, players), Zones: make([][]int, 4*players), Turn: 7, Whose: max(players-1, 0)}
	for p := range s.Players {
		s.Players[p] = api.Player{Life: int32(20 + p), Energy: int32(-p), Out: p%2 == 1}
	}
	for c := range cards {
		s.Cards = append(s.Cards, api.Card{Kind: c % api.MaxKinds, Owner: c % max(players, 1), Power: int32(c), Health: 2, Damage: -3, Marks: int32(-c)})
	}
	for c := cards - 1; c >= 0 && players > 0; c-- {
		z := (c * 7) % len(s.Zones)
		s.Zones[z] = append(s.Zones[z], c)
	}
	return s
}

// clone is the state in memory of its own.
func clone(s api.State) api.State {
	s.Players, s.Cards, s.Zones = slices.Clone(s.Players), slices.Clone(s.Cards), slices.Clone(s.Zones)
	for z := range s.Zones {
		s.Zones[z] = slices.Clone(s.Zones[z])
	}
	return s
}

// same tells whether the states have the same fields, list by list.
func same(a, b api.State) bool {
	return slices.Equal(a.Players, b.Players) && slices.Equal(a.Cards, b.Cards) && slices.EqualFunc(a.Zones, b.Zones, slices.Equal[[]int]) &&
		a.Turn == b.Turn && a.Whose == b.Whose && a.End == b.End && a.Winner == b.Winner
}

// changed is the state as it is behind the change, in memory of its own.
func changed(s api.State, change func(s *api.State)) api.State {
	s = clone(s)
	change(&s)
	return s
}

// laid: bytes laid out by the document's words, and the places at which their numbers begin.
type laid struct {
	b      []byte
	begins []int
}

func (l *laid) one(n int) {
	l.begins = append(l.begins, len(l.b))
	l.b = append(l.b, byte(n))
}

func (l *laid) two(n int) {
	l.begins = append(l.begins, len(l.b))
	l.b = binary.BigEndian.AppendUint16(l.b, uint16(n))
}

func (l *laid) four(n int32) {
	l.begins = append(l.begins, len(l.b))
	l.b = binary.BigEndian.AppendUint32(l.b, uint32(n))
}

// lay lays out the state, whether it may be or not.
func lay(s api.State) *laid {
	l := &laid{}
	for _, n := range []int{0x54, 0x42, 0x4c, 0x53, 1} {
		l.one(n)
	}
	l.one(len(s.Players))
	for _, p := range s.Players {
		l.four(p.Life)
		l.four(p.Energy)
		if p.Out {
			l.one(1)
		} else {
			l.one(0)
		}
	}
	l.two(len(s.Cards))
	for _, c := range s.Cards {
		l.two(c.Kind)
		l.one(c.Owner)
		l.four(c.Power)
		l.four(c.Health)
		l.four(c.Damage)
		l.four(c.Marks)
	}
	for _, entries := range s.Zones {
		l.two(len(entries))
		for _, entry := range entries {
			l.two(entry)
		}
	}
	l.four(s.Turn)
	l.one(s.Whose)
	l.one(int(s.End))
	l.one(s.Winner)
	return l
}

// outs are the places of the bytes that say whether a player is out.
func outs(players int) []int {
	l := []int{}
	for p := range players {
		l = append(l, 6+9*p+8)
	}
	return l
}

// edges are states that may be, at the ends that the document names.
func edges() []api.State {
	l := []api.State{small()}
	for players := 2; players <= api.MaxPlayers; players++ {
		for _, cards := range []int{1, 2, 3, 40, 255, api.MaxCards} {
			l = append(l, dealt(players, cards))
		}
		l = append(l, allInOneZone(players)...)
		l = append(l, endings(dealt(players, 3))...)
	}
	l = append(l, stats(dealt(3, 2))...)
	last := dealt(4, api.MaxCards)
	for c := range last.Cards {
		last.Cards[c].Kind, last.Cards[c].Owner = api.MaxKinds-1, api.MaxPlayers-1
	}
	return append(l, last)
}

// allInOneZone are states of which one zone has all the cards, from the last to the first, each zone once.
func allInOneZone(players int) []api.State {
	l := []api.State{}
	for zone := range 4 * players {
		s := dealt(players, api.MaxCards)
		s.Zones = make([][]int, 4*players)
		for c := api.MaxCards - 1; c >= 0; c-- {
			s.Zones[zone] = append(s.Zones[zone], c)
		}
		l = append(l, s)
	}
	return l
}

// endings are the state with each turn's end, each player's turn and out, and each way in which a game ends.
func endings(s api.State) []api.State {
	l := []api.State{}
	for _, turn := range []int32{1, 2, 255, 256, 1 << 16, 1 << 24, math.MaxInt32 - 1, math.MaxInt32} {
		l = append(l, changed(s, func(s *api.State) { s.Turn = turn }))
	}
	for p := range s.Players {
		l = append(l,
			changed(s, func(s *api.State) { s.Whose = p }),
			changed(s, func(s *api.State) { s.End, s.Winner = api.Won, p }),
			changed(s, func(s *api.State) { s.Players[p].Out = !s.Players[p].Out }))
	}
	return append(l, changed(s, func(s *api.State) { s.End = api.Drawn }))
}

// statPlaces are where the state keeps its stats.
func statPlaces(s *api.State) []*int32 {
	l := []*int32{}
	for i := range s.Players {
		l = append(l, &s.Players[i].Life, &s.Players[i].Energy)
	}
	for i := range s.Cards {
		l = append(l, &s.Cards[i].Power, &s.Cards[i].Health, &s.Cards[i].Damage, &s.Cards[i].Marks)
	}
	return l
}

// stats are the state with each of its stats at its ends, and with numbers whose bytes differ.
func stats(s api.State) []api.State {
	l := []api.State{}
	for i := range statPlaces(&s) {
		for _, n := range []int32{-api.MaxStat, api.MaxStat, -1, 0, 1, -256, 255, 0x01020304, -0x01020304, -1 << 24} {
			l = append(l, changed(s, func(s *api.State) { *statPlaces(s)[i] = n }))
		}
	}
	return l
}

// anyState is one that may be, all of it by chance.
func anyState(r *rand.Rand) api.State {
	s := dealt(2+r.Intn(3), 1+r.Intn(12))
	players := len(s.Players)
	for _, place := range statPlaces(&s) {
		*place = int32(r.Intn(2*api.MaxStat+1) - api.MaxStat)
	}
	for p := range s.Players {
		s.Players[p].Out = r.Intn(2) == 0
	}
	s.Zones = make([][]int, 4*players)
	for _, c := range r.Perm(len(s.Cards)) {
		s.Cards[c].Kind, s.Cards[c].Owner = r.Intn(api.MaxKinds), r.Intn(players)
		zone := r.Intn(4 * players)
		s.Zones[zone] = append(s.Zones[zone], c)
	}
	s.Turn, s.Whose, s.End = 1+r.Int31n(math.MaxInt32), r.Intn(players), int8(r.Intn(3))
	if s.End == api.Won {
		s.Winner = r.Intn(players)
	}
	return s
}

// wrong: a state that may not be, and what is wrong with it; its numbers fit the bytes of an image.
type wrong struct {
	what string
	s    api.State
	at   int
}

// wrongs has for each thing of which Check tells a number states of which it is not so.
func wrongs() []wrong {
	l := []wrong{}
	add := func(what string, at int, s api.State, change func(s *api.State)) {
		l = append(l, wrong{what, changed(s, change), at})
	}
	none := func(s *api.State) {}
	for _, players := range []int{0, 1, 5, 128, 255} {
		add("not so many players", 0, dealt(players, 3), none)
	}
	for _, cards := range []int{0, 257, 1000, 32768, 65535} {
		add("not so many cards", 0, dealt(3, cards), none)
	}
	add("nothing at all", 0, dealt(0, 0), none)
	s := dealt(3, 4)
	for _, n := range []int32{-api.MaxStat - 1, api.MaxStat + 1, math.MinInt32, math.MaxInt32} {
		for i := range statPlaces(&s) {
			at := 1 + i/2
			if i >= 6 {
				at = 4 + (i-6)/4
			}
			add("no stat", at, s, func(s *api.State) { *statPlaces(s)[i] = n })
		}
	}
	for c := range s.Cards {
		for _, n := range []int{256, 32768, 65535} {
			add("no kind", 4+c, s, func(s *api.State) { s.Cards[c].Kind = n })
		}
		for _, n := range []int{3, 128, 255} {
			add("no owner", 4+c, s, func(s *api.State) { s.Cards[c].Owner = n })
		}
	}
	wrongEntries(s, add)
	for _, n := range []int32{0, -1, math.MinInt32} {
		add("no turn", 13, s, func(s *api.State) { s.Turn = n })
	}
	for _, n := range []int{3, 128, 255} {
		add("nobody's turn", 14, s, func(s *api.State) { s.Whose = n })
		add("nobody has won", 16, s, func(s *api.State) { s.End, s.Winner = api.Won, n })
	}
	for _, n := range []int8{3, 127, -128, -1} {
		add("no end", 15, s, func(s *api.State) { s.End = n })
	}
	for _, n := range []int{1, 2, 255} {
		add("a winner while it goes on", 16, s, func(s *api.State) { s.Winner = n })
		add("a winner of a draw", 16, s, func(s *api.State) { s.End, s.Winner = api.Drawn, n })
	}
	return l
}

// wrongEntries adds to a state of three players and four cards entries that may not be, and takes entries away.
func wrongEntries(s api.State, add func(what string, at int, s api.State, change func(s *api.State))) {
	order := slices.Concat(s.Zones...)
	for i, card := range order {
		for _, n := range []int{4, 256, 32768, 65535} {
			add("no card", 8+i, s, func(s *api.State) { swap(s, card, n) })
		}
		if i > 0 {
			add("an entry twice", 8+i, s, func(s *api.State) { swap(s, card, order[0]) })
		}
	}
	add("an entry too few", 11, s, func(s *api.State) { s.Zones[0] = nil })
	add("no entry", 8, s, func(s *api.State) { s.Zones = make([][]int, 12) })
	for _, many := range []int{257, 32768, 65535} {
		add("too many entries", 8+1, s, func(s *api.State) { s.Zones[0] = make([]int, many) })
	}
}

// swap puts n where card stands.
func swap(s *api.State, card, n int) {
	for _, entries := range s.Zones {
		if i := slices.Index(entries, card); i >= 0 {
			entries[i] = n
		}
	}
}
