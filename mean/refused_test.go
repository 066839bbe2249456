package mean_test

import (
	"math"
	"math/rand"
	"slices"
	"strconv"
	"strings"
	"testing"

	"tableau/api"
	"tableau/check"
	"tableau/mean"
)

// run does an ability on the document's state, for the card 0 and the player 0.
func run(d []api.Design, design, able int) (api.Result, api.Errno) {
	return mean.Run(d, design, able, start(), 0, 0, nil)
}

// wantWhy says why a call is refused, or OK, if it is not; beside an error all else is zero.
func wantWhy(t testing.TB, what string, r api.Result, why, w api.Errno) {
	t.Helper()
	if why != w {
		t.Errorf("P14.1: %s: %d, not %d", what, int(why), int(w))
	}
	if why != api.OK && !isZero(r) {
		t.Errorf("P14.1: %s: beside %d: %+v (R2)", what, int(why), r)
	}
}

// far are numbers that nothing has.
func far() []int {
	return []int{-1, -2, math.MinInt, math.MinInt32, math.MaxInt32, 1 << 32, math.MaxInt}
}

// edges is OK from 0 to below many, and ErrArg elsewhere.
func edges(t *testing.T, what string, many int, call func(n int) (api.Result, api.Errno)) {
	t.Helper()
	for _, n := range far() {
		r, why := call(n)
		wantWhy(t, what+" "+strconv.Itoa(n), r, why, api.ErrArg)
	}
	for n := range many + 3 {
		w := api.OK
		if n >= many {
			w = api.ErrArg
		}
		r, why := call(n)
		wantWhy(t, what+" "+strconv.Itoa(n), r, why, w)
	}
}

func TestNumbersThatAreNone(t *testing.T) {
	d := designs(t, `card "A" { on play { } on die { } } card "B" { on hit { } } card "C" { on play { } }`)
	edges(t, "design", 3, func(n int) (api.Result, api.Errno) { return mean.Run(d, n, 0, start(), 0, 0, nil) })
	edges(t, "able", 2, func(n int) (api.Result, api.Errno) { return mean.Run(d, 0, n, start(), 0, 0, nil) })
	edges(t, "able", 1, func(n int) (api.Result, api.Errno) { return mean.Run(d, 1, n, start(), 0, 0, nil) })
	for _, size := range [][2]int{{2, 1}, {2, 5}, {3, 2}, {4, 256}} {
		s := dealt(size[0], size[1])
		edges(t, "card", size[1], func(n int) (api.Result, api.Errno) { return mean.Run(d, 0, 0, s, n, 0, nil) })
		edges(t, "player", size[0], func(n int) (api.Result, api.Errno) { return mean.Run(d, 0, 0, s, 0, n, nil) })
	}
}

// No designs, no abilities, no cards, no players: nothing has a number.
func TestNothingThere(t *testing.T) {
	d := does(t, "")
	for _, n := range append(far(), 0, 1, 2) {
		for what, l := range map[string][]api.Design{"nil": nil, "empty": {}, "without abilities": designs(t, `card "A" { tag "x"; } card "B" { on play { } }`)[:1], "with none": {{Able: []api.Ability{}}}} {
			r, why := run(l, 0, n)
			wantWhy(t, "designs "+what, r, why, api.ErrArg)
			r, why = run(l, n, 0)
			wantWhy(t, "designs "+what, r, why, api.ErrArg)
		}
		for _, spoil := range []func(s *api.State){
			func(s *api.State) { *s = api.State{} },
			func(s *api.State) { s.Cards = nil },
			func(s *api.State) { s.Cards = []api.Card{} },
			func(s *api.State) { s.Players = nil },
			func(s *api.State) { s.Players = []api.Player{} },
		} {
			s := start()
			spoil(&s)
			card, player := 0, n
			if len(s.Cards) == 0 {
				card, player = n, 0
			}
			r, why := mean.Run(d, 0, 0, s, card, player, nil)
			wantWhy(t, "a state without cards, or players", r, why, api.ErrArg)
		}
	}
}

// wrongStates are states that may not be, each by another thing; they have a card 0 and a player 0.
func wrongStates() []api.State {
	var l []api.State
	for _, spoil := range []func(s *api.State){
		func(s *api.State) { s.Players = s.Players[:1] },
		func(s *api.State) { s.Players = append(s.Players, api.Player{}) },
		func(s *api.State) { s.Players = make([]api.Player, 5); s.Zones = append(s.Zones, make([][]int, 12)...) },
		func(s *api.State) { s.Zones = s.Zones[:7] },
		func(s *api.State) { s.Zones = append(s.Zones, nil) },
		func(s *api.State) { s.Zones = nil },
		func(s *api.State) { s.Players[1].Life = api.MaxStat + 1 },
		func(s *api.State) { s.Players[0].Energy = -api.MaxStat - 1 },
		func(s *api.State) { s.Cards[2].Kind = -1 },
		func(s *api.State) { s.Cards[1].Kind = api.MaxKinds },
		func(s *api.State) { s.Cards[1].Owner = 2 },
		func(s *api.State) { s.Cards[1].Owner = -1 },
		func(s *api.State) { s.Cards[2].Power = api.MaxStat + 1 },
		func(s *api.State) { s.Cards[0].Damage = -api.MaxStat - 1 },
		func(s *api.State) { s.Zones[7] = []int{2} },
		func(s *api.State) { s.Zones[7] = []int{3} },
		func(s *api.State) { s.Zones[6] = nil },
		func(s *api.State) { s.Turn = 0 },
		func(s *api.State) { s.Whose = 2 },
		func(s *api.State) { s.End = 3 },
		func(s *api.State) { s.Winner = 1 },
		func(s *api.State) { s.End, s.Winner = api.Won, -1 },
		func(s *api.State) { s.End, s.Winner = api.Drawn, 1 },
	} {
		s := start()
		spoil(&s)
		l = append(l, s)
	}
	return l
}

func TestStatesThatMayNotBe(t *testing.T) {
	many := make([]api.Design, 300)
	for i, s := range wrongStates() {
		for _, d := range [][]api.Design{does(t, ""), does(t, "abort;"), append(does(t, ""), many...)} {
			r, why := mean.Run(d, 0, 0, s, 0, 0, nil)
			wantWhy(t, "the wrong state "+strconv.Itoa(i), r, why, api.ErrState)
		}
	}
}

// What a state that may be is like otherwise is not asked.
func TestStatesThatMayBe(t *testing.T) {
	d := does(t, "")
	for i, turn := range []func(s *api.State){
		func(s *api.State) {},
		func(s *api.State) { s.End, s.Winner = api.Won, 1 },
		func(s *api.State) { s.End = api.Drawn },
		func(s *api.State) { s.Players[0].Out, s.Players[1].Out = true, true },
		func(s *api.State) { s.Turn, s.Whose = math.MaxInt32, 1 },
		func(s *api.State) { s.Cards[0].Owner = 1 },
		func(s *api.State) { s.Players[0].Life, s.Cards[0].Marks = -api.MaxStat, api.MaxStat },
	} {
		s := start()
		turn(&s)
		for card := range 3 {
			for player := range 2 {
				answers := []int64{math.MinInt64}
				r, why := mean.Run(d, 0, 0, s, card, player, answers)
				wantWhy(t, "the state "+strconv.Itoa(i), r, why, api.OK)
				wantSound(t, "the state "+strconv.Itoa(i), s, answers, r)
			}
		}
	}
}

// The Kind of each card must be the number of a design; which design's ability is done doesn't matter.
func TestCardsOfNoDesign(t *testing.T) {
	for _, many := range []int{1, 2, 3, 255, 256, 257, 300} {
		d := append(does(t, ""), make([]api.Design, many-1)...)
		for card := range 3 {
			for _, kind := range []int{0, 1, 2, 3, 253, 254, 255} {
				s := start()
				s.Cards[card].Kind = kind
				w := api.OK
				if kind >= many {
					w = api.ErrState
				}
				r, why := mean.Run(d, 0, 0, s, 0, 0, nil)
				wantWhy(t, strconv.Itoa(many)+" designs, the card "+strconv.Itoa(card)+" of the kind "+strconv.Itoa(kind), r, why, w)
			}
		}
	}
}

// Of two refusals the first one of the document's order is told: ErrArg ahead of ErrState.
func TestWhichRefusalComesFirst(t *testing.T) {
	good := does(t, "draw(me);")
	broken := does(t, "draw(me);")
	broken[0].Able[0].Tree[0].At = -1
	strange := start()
	strange.Cards[1].Kind = 1
	for i, s := range append(wrongStates(), strange) {
		for what, call := range map[string]func() (api.Result, api.Errno){
			"design":             func() (api.Result, api.Errno) { return mean.Run(good, 1, 0, s, 0, 0, nil) },
			"design below 0":     func() (api.Result, api.Errno) { return mean.Run(good, -1, 0, s, 0, 0, nil) },
			"able":               func() (api.Result, api.Errno) { return mean.Run(good, 0, 1, s, 0, 0, nil) },
			"able below 0":       func() (api.Result, api.Errno) { return mean.Run(good, 0, -1, s, 0, 0, nil) },
			"not Able":           func() (api.Result, api.Errno) { return mean.Run(broken, 0, 0, s, 0, 0, nil) },
			"card":               func() (api.Result, api.Errno) { return mean.Run(good, 0, 0, s, len(s.Cards), 0, nil) },
			"card below 0":       func() (api.Result, api.Errno) { return mean.Run(good, 0, 0, s, -1, 0, nil) },
			"player":             func() (api.Result, api.Errno) { return mean.Run(good, 0, 0, s, 0, len(s.Players), nil) },
			"player below 0":     func() (api.Result, api.Errno) { return mean.Run(good, 0, 0, s, 0, -1, nil) },
			"all that is handed": func() (api.Result, api.Errno) { return mean.Run(nil, -1, -1, s, -1, -1, nil) },
		} {
			r, why := call()
			wantWhy(t, what+" and the wrong state "+strconv.Itoa(i), r, why, api.ErrArg)
		}
	}
}

// someAbilities are abilities with nodes of all kinds.
func someAbilities() []string {
	return []string{
		"on play { }", "on die when true { stop; abort; }", "on hit { let x = 1; x = x + 2; gain(me, x); }", "on turn { repeat 3 as i { mark(self, i); } }",
		"on draw { each c in zone(me, deck).cards { hit(c, 1); } }", "on play { choose c in zone(me, deck).cards { draw(c.owner); } else { let d = 2; mark(self, d); } }",
		"on play { if true { let x = 1; } else if me.out { let y = self; hit(y, 1); } else { stop; } }", `on play { if is(self, "beast") != false { shuffle(zone(me, grave)); put(self, zone(next(me), hand)); } }`,
		"on play { let x = -(1 - 2) * 3 / 4 % 5; let b = !(x < 1 || x <= 2 && x > 3 || x >= 4); }",
		"on draw when self.marks == 0 { let l = zone(next(me), hand).cards; let n = l.count; each c in l { if c == self && has(l, top(c.place)) { harm(c.place.holder, abs(min(n, max(1, random(2))))); } } grow(self, n); }",
	}
}

func copied(a api.Ability) api.Ability {
	a.Slots, a.Tree = slices.Clone(a.Slots), slices.Clone(a.Tree)
	return a
}

// bend changes something of the ability.
func bend(r *rand.Rand, a api.Ability) api.Ability {
	a = copied(a)
	i := r.Intn(len(a.Tree))
	n := &a.Tree[i]
	near := []int64{-1, 0, 1, 2, 3, 4, 8, 9, 12, 13, 31, 32, 255, 256, math.MinInt64, math.MaxInt64, n.N + 1, n.N - 1}
	number := near[r.Intn(len(near))]
	switch r.Intn(14) {
	case 0:
		n.Op = int8(r.Intn(54))
	case 1:
		n.Op += int8(r.Intn(3)) - 1
	case 2:
		n.Kind = int8(r.Intn(9)) - 1
	case 3, 4, 5:
		n.N = number
	case 6:
		n.M = number
	case 7:
		n.Text = []string{"", "x", "\n", "beast"}[r.Intn(4)]
	case 8:
		n.At = []int{-1, 0, 9}[r.Intn(3)]
	case 9:
		n.Kids += []int{-1, 1, math.MaxInt32, math.MinInt32}[r.Intn(4)]
	case 10:
		a.Tree = slices.Delete(a.Tree, i, i+1)
	case 11:
		a.Tree = slices.Insert(a.Tree, i, a.Tree[r.Intn(len(a.Tree))])
	case 12:
		a.On, a.When = r.Intn(8)-1, r.Intn(2) == 0
	case 13:
		a.Slots[r.Intn(len(a.Slots))] = int8(r.Intn(8))
	}
	return a
}

// An ability is done just if it is Able.
func TestAbilitiesThatMayNotBe(t *testing.T) {
	r := rand.New(rand.NewSource(1))
	ends := map[api.Errno]int{}
	for _, on := range someAbilities() {
		d := fox(t, on)
		a := d[0].Able[0]
		for range 2500 {
			b := bend(r, a)
			for r.Intn(3) == 0 && len(b.Tree) > 0 {
				b = bend(r, b)
			}
			w := api.ErrArg
			if check.Able(b) {
				w = api.OK
			}
			ends[w]++
			d[0].Able[0] = b
			result, why := mean.Run(d, 0, 0, start(), 0, 0, []int64{1, 0, 1})
			if why != w {
				t.Fatalf("P14.1: %s: %+v: %d, not %d", on, b, int(why), int(w))
			}
			wantWhy(t, on, result, why, w)
			if why == api.OK {
				wantSound(t, on, start(), []int64{1, 0, 1}, result)
			}
		}
	}
	if ends[api.OK] < 1000 || ends[api.ErrArg] < 5000 {
		t.Errorf("%v: too few", ends)
	}
}

// No ability, and one without nodes, slots or a block, may be.
func TestAbilitiesOfNothing(t *testing.T) {
	slots := []int8{api.KCard, api.KPlayer}
	block := []api.Node{{Op: api.TBlock}}
	for what, c := range map[string]struct {
		a api.Ability
		w api.Errno
	}{
		"nothing":         {api.Ability{}, api.ErrArg},
		"no tree":         {api.Ability{Slots: slots}, api.ErrArg},
		"no slots":        {api.Ability{Tree: block}, api.ErrArg},
		"no condition":    {api.Ability{Slots: slots, Tree: block, When: true}, api.ErrArg},
		"two blocks":      {api.Ability{Slots: slots, Tree: append(block, block...)}, api.ErrArg},
		"an event 5":      {api.Ability{Slots: slots, Tree: block, On: 5}, api.ErrArg},
		"an empty block":  {api.Ability{Slots: slots, Tree: block}, api.OK},
		"a name of none":  {api.Ability{Slots: slots, Tree: []api.Node{{Op: api.TBlock, Kids: 1}, {Op: api.TDo, N: 2, Kids: 1}, {Op: api.TName, N: 2, Kind: api.KPlayer}}}, api.ErrArg},
		"an open end":     {api.Ability{Slots: slots, Tree: []api.Node{{Op: api.TBlock, Kids: 1}}}, api.ErrArg},
		"a negative TNum": {api.Ability{Slots: slots, Tree: []api.Node{{Op: api.TBlock, Kids: 1}, {Op: api.TDo, N: 5, Kids: 2}, {Op: api.TName, N: 1, Kind: api.KPlayer}, {Op: api.TNum, N: -1, Kind: api.KInt}}}, api.ErrArg},
	} {
		r, why := run([]api.Design{{Able: []api.Ability{c.a}}}, 0, 0)
		wantWhy(t, what, r, why, c.w)
	}
}

// Only the ability that is done must be Able, and of the other designs but their number and tags matter.
func TestOtherAbilitiesAreNotAsked(t *testing.T) {
	d := designs(t, `card "A" { on play { abort; } on play { gain(me, 1); } on play { abort; } } card "B" { on play { abort; } }`)
	for _, i := range []int{0, 2} {
		d[0].Able[i].Tree[0].Kids = 7
	}
	d[1].Able[0] = api.Ability{On: -1}
	d[1].Name, d[1].Cost, d[0].Power = strings.Repeat("\x00", 999), -1, math.MinInt64
	for able, w := range []api.Errno{api.ErrArg, api.OK, api.ErrArg} {
		r, why := run(d, 0, able)
		wantWhy(t, "able "+strconv.Itoa(able), r, why, w)
	}
	r, why := run(d, 1, 0)
	wantWhy(t, "the other design", r, why, api.ErrArg)
}

// R1: whatever is handed in, the call ends.
func TestWhatNobodyMade(t *testing.T) {
	r := rand.New(rand.NewSource(2))
	odd := func() int { return append(far(), 0, 0, 1, 2)[r.Intn(11)] }
	for range 20000 {
		tree := make([]api.Node, r.Intn(6))
		for i := range tree {
			tree[i] = api.Node{Op: int8(r.Intn(54)), Kind: int8(r.Intn(7)), N: int64(odd()), M: int64(odd()), At: odd(), Kids: odd()}
		}
		s := start()
		s.Players = s.Players[:r.Intn(3)]
		for range r.Intn(4) {
			s.Cards[r.Intn(3)] = api.Card{Kind: odd(), Owner: odd(), Power: int32(odd())}
			s.Zones[r.Intn(8)] = []int{odd(), odd()}
			s.Turn, s.Whose, s.Winner = int32(odd()), odd(), odd()
		}
		d := []api.Design{{Able: []api.Ability{{On: odd(), Slots: []int8{3, 4}, When: r.Intn(2) == 0, Tree: tree}}}, does(t, "draw(me);")[0]}
		result, why := mean.Run(d[:1+r.Intn(2)], odd(), odd(), s, odd(), odd(), []int64{int64(odd())})
		if why != api.OK && why != api.ErrArg && why != api.ErrState {
			t.Fatalf("P14.1: %d", int(why))
		}
		if why != api.OK && !isZero(result) {
			t.Fatalf("P14.1: beside %d: %+v (R2)", int(why), result)
		}
	}
}
