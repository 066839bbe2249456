package state

import (
	"math"
	"math/rand"
	"slices"
	"testing"

	"tableau/api"
)

// small is the document's state S.
func small() api.State {
	return api.State{
		Players: make([]api.Player, 2),
		Cards:   []api.Card{{Kind: 3}, {Owner: 1}},
		Zones:   [][]int{{0}, nil, nil, nil, nil, nil, {1}, nil},
		Turn:    1,
	}
}

// dealt is a state that may be, its cards laid out over all zones, the last ones first.
func dealt(players, cards int) api.State {
	s := api.State{Players: make([]api.Player, players), Zones: make([][]int, 4*players), Turn: 7, Whose: players - 1}
	for p := range s.Players {
		s.Players[p] = api.Player{Life: int32(20 + p), Energy: int32(-p), Out: p%2 == 1}
	}
	for c := range cards {
		s.Cards = append(s.Cards, api.Card{Kind: c % api.MaxKinds, Owner: c % players, Power: int32(c), Health: 2, Damage: -3, Marks: int32(-c)})
	}
	for c := cards - 1; c >= 0; c-- {
		z := (c * 7) % len(s.Zones)
		s.Zones[z] = append(s.Zones[z], c)
	}
	return s
}

// entriesOf are the numbers that stand in the zones, one behind the other.
func entriesOf(s api.State) []int {
	return slices.Concat(s.Zones...)
}

// within tells whether n is from low to high.
func within(n, low, high int) bool {
	return low <= n && n <= high
}

// things tells of each thing of a state whether it is so, by the document's words, up to the first if that is not so.
func things(s api.State) []bool {
	stats := func(l ...int32) bool {
		return !slices.ContainsFunc(l, func(n int32) bool { return !within(int(n), -api.MaxStat, api.MaxStat) })
	}
	players := len(s.Players)
	so := []bool{within(players, 2, api.MaxPlayers) && within(len(s.Cards), 1, api.MaxCards) && len(s.Zones) == 4*players}
	for _, p := range s.Players {
		so = append(so, stats(p.Life, p.Energy))
	}
	for _, c := range s.Cards {
		so = append(so, within(c.Kind, 0, api.MaxKinds-1) && within(c.Owner, 0, players-1) && stats(c.Power, c.Health, c.Damage, c.Marks))
	}
	entries := entriesOf(s)
	for i, e := range entries {
		so = append(so, within(e, 0, len(s.Cards)-1) && !slices.Contains(entries[:i], e))
	}
	every := true
	for c := range s.Cards {
		every = every && slices.Contains(entries, c)
	}
	winner := s.Winner == 0
	if s.End == api.Won {
		winner = within(s.Winner, 0, players-1)
	}
	return append(so, every, s.Turn >= 1, within(s.Whose, 0, players-1), s.End == 0 || s.End == 1 || s.End == 2, winner)
}

// faultOf is the number of the first thing that is not so, -1 if there is none.
func faultOf(s api.State) int {
	return slices.Index(things(s), false)
}

// wantCheck says what Check ought to answer: at -1 that the state may be.
func wantCheck(t *testing.T, what string, s api.State, at int) {
	t.Helper()
	want, place := api.ErrState, at
	if at == -1 {
		want, place = api.OK, 0
	}
	if e, n := Check(s); e != want || n != place {
		t.Errorf("P5.1: %s: %d, %d, not %d, %d", what, e, n, want, place)
	}
}

func TestCheckOfTheExamples(t *testing.T) {
	for _, c := range []struct {
		what string
		turn func(s *api.State)
		at   int
	}{
		{"S", func(s *api.State) {}, -1},
		{"Turn 0", func(s *api.State) { s.Turn = 0 }, 8},
		{"End 3", func(s *api.State) { s.End = 3 }, 10},
		{"Winner 1", func(s *api.State) { s.Winner = 1 }, 11},
		{"End Won, Winner 1", func(s *api.State) { s.End, s.Winner = api.Won, 1 }, -1},
		{"0 in the hand, too", func(s *api.State) { s.Zones[1] = []int{0} }, 6},
		{"2 in the hand", func(s *api.State) { s.Zones[1] = []int{2} }, 6},
		{"without the 1", func(s *api.State) { s.Zones[6] = nil }, 6},
		{"Life beyond", func(s *api.State) { s.Players[1].Life = 1000000001 }, 2},
		{"Owner 2", func(s *api.State) { s.Cards[0].Owner = 2 }, 3},
		{"three zones", func(s *api.State) { s.Zones = s.Zones[:3] }, 0},
		{"the zero State", func(s *api.State) { *s = api.State{} }, 0},
	} {
		s := small()
		c.turn(&s)
		wantCheck(t, c.what, s, c.at)
		if got := faultOf(s); got != c.at {
			t.Errorf("the model is wrong at %s: %d", c.what, got)
		}
	}
}

func TestCheckOfEverySize(t *testing.T) {
	for players := range 7 {
		for _, cards := range []int{0, 1, 2, 3, 17, api.MaxCards - 1, api.MaxCards, api.MaxCards + 1, 1000} {
			if players == 0 {
				s := api.State{Cards: make([]api.Card, cards), Turn: 1}
				wantCheck(t, "no players", s, 0)
				continue
			}
			at := 0
			if 2 <= players && players <= 4 && 1 <= cards && cards <= 256 {
				at = -1
			}
			s := dealt(players, cards)
			wantCheck(t, "a size", s, at)
			s.Zones = append(s.Zones, nil)
			wantCheck(t, "a zone too many", s, 0)
			s.Zones = s.Zones[:4*players-1]
			wantCheck(t, "a zone too few", s, 0)
			s.Zones = nil
			wantCheck(t, "no zones", s, 0)
		}
	}
}

// changes are single faults of a state of three players and five cards, with the number that Check tells.
func changes() []struct {
	what string
	turn func(s *api.State)
	at   int
} {
	type change = struct {
		what string
		turn func(s *api.State)
		at   int
	}
	l := []change{}
	for p := range 3 {
		for _, bad := range []int32{api.MaxStat + 1, -api.MaxStat - 1, math.MaxInt32, math.MinInt32} {
			l = append(l,
				change{"Life", func(s *api.State) { s.Players[p].Life = bad }, 1 + p},
				change{"Energy", func(s *api.State) { s.Players[p].Energy = bad }, 1 + p})
		}
	}
	for c := range 5 {
		for _, bad := range []int32{api.MaxStat + 1, -api.MaxStat - 1, math.MaxInt32, math.MinInt32} {
			l = append(l,
				change{"Power", func(s *api.State) { s.Cards[c].Power = bad }, 4 + c},
				change{"Health", func(s *api.State) { s.Cards[c].Health = bad }, 4 + c},
				change{"Damage", func(s *api.State) { s.Cards[c].Damage = bad }, 4 + c},
				change{"Marks", func(s *api.State) { s.Cards[c].Marks = bad }, 4 + c})
		}
		for _, bad := range []int{-1, api.MaxKinds, math.MaxInt, math.MinInt} {
			l = append(l, change{"Kind", func(s *api.State) { s.Cards[c].Kind = bad }, 4 + c})
		}
		for _, bad := range []int{-1, 3, math.MaxInt, math.MinInt} {
			l = append(l, change{"Owner", func(s *api.State) { s.Cards[c].Owner = bad }, 4 + c})
		}
	}
	for _, bad := range []int32{0, -1, math.MinInt32} {
		l = append(l, change{"Turn", func(s *api.State) { s.Turn = bad }, 15})
	}
	for _, bad := range []int{-1, 3, math.MaxInt, math.MinInt} {
		l = append(l,
			change{"Whose", func(s *api.State) { s.Whose = bad }, 16},
			change{"Winner of the won", func(s *api.State) { s.End, s.Winner = api.Won, bad }, 18},
			change{"Winner of the drawn", func(s *api.State) { s.End, s.Winner = api.Drawn, bad }, 18},
			change{"Winner of the going", func(s *api.State) { s.Winner = bad }, 18})
	}
	for _, bad := range []int8{-1, 3, math.MaxInt8, math.MinInt8} {
		l = append(l, change{"End", func(s *api.State) { s.End = bad }, 17})
	}
	return append(l,
		change{"a winner of the going", func(s *api.State) { s.Winner = 1 }, 18},
		change{"a winner of the drawn", func(s *api.State) { s.End, s.Winner = api.Drawn, 2 }, 18})
}

func TestCheckOfSingleFaults(t *testing.T) {
	wantCheck(t, "without a fault", dealt(3, 5), -1)
	for _, c := range changes() {
		s := dealt(3, 5)
		c.turn(&s)
		wantCheck(t, c.what, s, c.at)
	}
}

func TestCheckOfTwoFaults(t *testing.T) {
	l := changes()
	for i, a := range l {
		for _, b := range l[i+1:] {
			s := dealt(3, 5)
			a.turn(&s)
			b.turn(&s)
			wantCheck(t, a.what+" and "+b.what, s, faultOf(s))
		}
	}
}

func TestCheckAtTheEdges(t *testing.T) {
	for _, c := range []struct {
		what string
		turn func(s *api.State)
	}{
		{"greatest stats", func(s *api.State) {
			s.Players[0] = api.Player{Life: api.MaxStat, Energy: api.MaxStat}
			s.Cards[1] = api.Card{Kind: api.MaxKinds - 1, Owner: 2, Power: api.MaxStat, Health: api.MaxStat, Damage: api.MaxStat, Marks: api.MaxStat}
		}},
		{"least stats", func(s *api.State) {
			s.Players[2] = api.Player{Life: -api.MaxStat, Energy: -api.MaxStat}
			s.Cards[4] = api.Card{Power: -api.MaxStat, Health: -api.MaxStat, Damage: -api.MaxStat, Marks: -api.MaxStat}
		}},
		{"turn 1", func(s *api.State) { s.Turn = 1 }},
		{"the last turn", func(s *api.State) { s.Turn = math.MaxInt32 }},
		{"the turn of 0", func(s *api.State) { s.Whose = 0 }},
		{"0 has won", func(s *api.State) { s.End, s.Winner = api.Won, 0 }},
		{"1, who is out, has won", func(s *api.State) { s.End, s.Winner = api.Won, 1 }},
		{"2 has won", func(s *api.State) { s.End, s.Winner = api.Won, 2 }},
		{"drawn", func(s *api.State) { s.End = api.Drawn }},
		{"all out", func(s *api.State) { s.Players[0].Out, s.Players[1].Out, s.Players[2].Out = true, true, true }},
		{"1, who is out, has the turn", func(s *api.State) { s.Whose = 1 }},
		{"all cards of one player", func(s *api.State) {
			for c := range s.Cards {
				s.Cards[c].Owner = 1
			}
		}},
		{"all cards in one zone", func(s *api.State) {
			s.Zones = make([][]int, 12)
			s.Zones[11] = []int{4, 2, 0, 3, 1}
		}},
	} {
		s := dealt(3, 5)
		c.turn(&s)
		wantCheck(t, c.what, s, -1)
	}
}

func TestCheckOfAWinnerOfEachNumber(t *testing.T) {
	for players := 2; players <= api.MaxPlayers; players++ {
		for winner := -1; winner <= players; winner++ {
			for _, end := range []int8{api.Going, api.Won, api.Drawn} {
				s := dealt(players, 1)
				s.End, s.Winner = end, winner
				at := 1 + players + 1 + 1 + 4
				if winner == 0 || end == api.Won && within(winner, 0, players-1) {
					at = -1
				}
				wantCheck(t, "a winner", s, at)
			}
		}
	}
}

// TestCheckOfEntries lays two to four entries out in every way, with numbers from -1 to 3, for three cards.
func TestCheckOfEntries(t *testing.T) {
	many := 0
	var lay func(s api.State, left int)
	lay = func(s api.State, left int) {
		many++
		at := faultOf(s)
		wantCheck(t, "entries laid out", s, at)
		for c := -2; c <= 4 && at != -1; c++ {
			if z, i, ok := Where(s, c); z != 0 || i != 0 || ok {
				t.Fatalf("P5.3: of a state that may not be, %v: Where(%d) = %d, %d, %v", s.Zones, c, z, i, ok)
			}
		}
		if left == 0 {
			return
		}
		for entry := -1; entry <= 3; entry++ {
			for _, z := range []int{0, 3, 7} {
				more := s
				more.Zones = slices.Clone(s.Zones)
				more.Zones[z] = append(slices.Clone(s.Zones[z]), entry)
				lay(more, left-1)
			}
		}
	}
	s := dealt(2, 3)
	s.Zones = make([][]int, 8)
	lay(s, 4)
	if many < 50000 {
		t.Errorf("only %d", many)
	}
}

func TestCheckOfTooManyEntries(t *testing.T) {
	s := dealt(4, api.MaxCards)
	first := 1 + 4 + api.MaxCards
	for _, entry := range []int{0, 255, 256, -1, math.MaxInt, math.MinInt} {
		more := filled(s)
		more.Zones[15] = append(more.Zones[15], entry)
		wantCheck(t, "one more at the end", more, first+api.MaxCards)
		more = filled(s)
		more.Zones[0] = slices.Insert(more.Zones[0], 0, entry)
		at := first
		if within(entry, 0, 255) {
			at += 1 + slices.Index(entriesOf(s), entry)
		}
		wantCheck(t, "one more at the beginning", more, at)
	}
	s.Zones[3] = make([]int, 1<<20)
	wantCheck(t, "a million of noughts", s, faultOf(api.State{Players: s.Players, Cards: s.Cards, Zones: append(slices.Clone(s.Zones[:3]), slices.Concat([][]int{{0, 0}}, s.Zones[4:])...)}))
}

func TestCheckCountsEveryThing(t *testing.T) {
	for players := 2; players <= api.MaxPlayers; players++ {
		for _, cards := range []int{1, 2, api.MaxCards} {
			s := dealt(players, cards)
			behind := 1 + players + 2*cards
			s.Zones[4*players-1] = append(s.Zones[4*players-1], cards)
			wantCheck(t, "the last entry", s, behind)
			s = dealt(players, cards)
			s.Zones[0] = s.Zones[0][:len(s.Zones[0])-1]
			wantCheck(t, "an entry too few", s, behind-1)
			s = dealt(players, cards)
			s.Winner = -1
			wantCheck(t, "the last thing", s, behind+4)
			s.End = 5
			wantCheck(t, "the one ahead of it", s, behind+3)
			s.Whose = players
			wantCheck(t, "two ahead", s, behind+2)
			s.Turn = 0
			wantCheck(t, "three ahead", s, behind+1)
		}
	}
}

// TestCheckOfChance turns states by several changes at once and holds Check against the document's words.
func TestCheckOfChance(t *testing.T) {
	r := rand.New(rand.NewSource(5))
	may := 0
	for range 30000 {
		s := dealt(2+r.Intn(3), 1+r.Intn(6))
		for range r.Intn(4) {
			turnSomething(r, &s)
		}
		at := faultOf(s)
		if at == -1 {
			may++
		}
		wantCheck(t, "of chance", s, at)
	}
	if may < 3000 || may > 27000 {
		t.Errorf("%d may be", may)
	}
}

// turnSomething changes one thing of the state, often to what may not be.
func turnSomething(r *rand.Rand, s *api.State) {
	stats := []int32{0, api.MaxStat, -api.MaxStat, api.MaxStat + 1, -api.MaxStat - 1}
	stat := stats[r.Intn(len(stats))]
	p, c, z := &s.Players[r.Intn(len(s.Players))], &s.Cards[r.Intn(len(s.Cards))], r.Intn(len(s.Zones))
	switch r.Intn(14) {
	case 0:
		p.Life = stat
	case 1:
		p.Energy = stat
	case 2:
		p.Out = !p.Out
	case 3:
		c.Kind = r.Intn(4)*128 - 1
	case 4:
		c.Owner = r.Intn(6) - 1
	case 5:
		c.Power, c.Marks = stat, c.Power
	case 6:
		c.Health, c.Damage = c.Damage, stat
	case 7:
		s.Zones[z] = append(s.Zones[z], r.Intn(len(s.Cards)+2)-1)
	case 8:
		s.Zones[z] = nil
	case 9:
		y := r.Intn(len(s.Zones))
		s.Zones[z], s.Zones[y] = s.Zones[y], s.Zones[z]
	case 10:
		s.Turn = int32(r.Intn(4) - 1)
	case 11:
		s.Whose = r.Intn(6) - 1
	case 12:
		s.End = int8(r.Intn(5) - 1)
	case 13:
		s.Winner = r.Intn(6) - 1
	}
}

func TestWhereOfTheExamples(t *testing.T) {
	for _, c := range []struct {
		card, zone, at int
		ok             bool
	}{
		{0, 0, 0, true}, {1, 6, 0, true}, {2, 0, 0, false}, {-1, 0, 0, false}, {math.MaxInt, 0, 0, false}, {math.MinInt, 0, 0, false},
	} {
		if zone, at, ok := Where(small(), c.card); zone != c.zone || at != c.at || ok != c.ok {
			t.Errorf("P5.3: Where(S, %d) = %d, %d, %v", c.card, zone, at, ok)
		}
	}
}

func TestWhereOfEveryCard(t *testing.T) {
	for players := 2; players <= api.MaxPlayers; players++ {
		for _, cards := range []int{1, 2, 9, 100, api.MaxCards} {
			s := dealt(players, cards)
			found := 0
			for z, entries := range s.Zones {
				for i, card := range entries {
					found++
					if zone, at, ok := Where(s, card); zone != z || at != i || !ok {
						t.Errorf("P5.3: card %d of %d stands at %d %d: %d, %d, %v", card, cards, z, i, zone, at, ok)
					}
				}
			}
			if found != cards {
				t.Fatalf("%d entries of %d cards", found, cards)
			}
			for _, none := range []int{-1, cards, cards + 1, math.MaxInt, math.MinInt} {
				if zone, at, ok := Where(s, none); zone != 0 || at != 0 || ok {
					t.Errorf("P5.3: no card %d of %d: %d, %d, %v", none, cards, zone, at, ok)
				}
			}
		}
	}
}

func TestWhereInAStateThatMayNotBe(t *testing.T) {
	for _, c := range changes() {
		s := dealt(3, 5)
		c.turn(&s)
		for card := -1; card <= 5; card++ {
			if zone, at, ok := Where(s, card); zone != 0 || at != 0 || ok {
				t.Errorf("P5.3: %s: Where(%d) = %d, %d, %v", c.what, card, zone, at, ok)
			}
		}
	}
	if zone, at, ok := Where(api.State{}, 0); zone != 0 || at != 0 || ok {
		t.Errorf("P5.3: of the zero State: %d, %d, %v", zone, at, ok)
	}
}

// TestCardsThatGoElsewhere takes each entry out and puts it into every place of every zone.
func TestCardsThatGoElsewhere(t *testing.T) {
	s := dealt(2, 5)
	for z, entries := range s.Zones {
		for i, card := range entries {
			taken := filled(s)
			taken.Zones[z] = slices.Delete(taken.Zones[z], i, i+1)
			wantCheck(t, "only taken", taken, 1+2+5+4)
			for to := range s.Zones {
				for at := range len(taken.Zones[to]) + 1 {
					put := filled(taken)
					put.Zones[to] = slices.Insert(put.Zones[to], at, card)
					wantCheck(t, "taken and put", put, -1)
					if zone, place, ok := Where(put, card); zone != to || place != at || !ok {
						t.Errorf("P5.3: put at %d %d: %d, %d, %v", to, at, zone, place, ok)
					}
					only := filled(s)
					only.Zones[to] = slices.Insert(only.Zones[to], min(at, len(only.Zones[to])), card)
					if e, _ := Check(only); e != api.ErrState {
						t.Errorf("P5.1: only put at %d %d: %d", to, at, e)
					}
				}
			}
		}
	}
}
