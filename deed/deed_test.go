package deed

import (
	"math"
	"math/rand"
	"slices"
	"strconv"
	"strings"
	"testing"

	"tableau/api"
	"tableau/state"
)

// word tells a state as a text, so that it can be found again.
func word(s api.State) string {
	var b strings.Builder
	tell := func(l ...int) {
		for _, n := range l {
			b.WriteString(strconv.Itoa(n) + " ")
		}
		b.WriteString(";")
	}
	for _, p := range s.Players {
		out := 0
		if p.Out {
			out = 1
		}
		tell(int(p.Life), int(p.Energy), out)
	}
	for _, c := range s.Cards {
		tell(c.Kind, c.Owner, int(c.Power), int(c.Health), int(c.Damage), int(c.Marks))
	}
	for _, zone := range s.Zones {
		tell(zone...)
	}
	tell(int(s.Turn), s.Whose, int(s.End), s.Winner)
	return b.String()
}

// wantAll holds Apply of each event on each state against the document's words, and then Undo: an event leads to a state just from the one of which that state came.
// The states must be all from which the events lead to any of them.
func wantAll(t *testing.T, states []api.State, events []api.Event) {
	t.Helper()
	fit := 0
	for _, e := range events {
		ahead := map[string]api.State{}
		for _, s := range states {
			behind, fits := wantApply(t, s, e)
			if !fits {
				continue
			}
			fit++
			if err, at := state.Check(behind); err != api.OK {
				t.Fatalf("P6.1: the state behind %v may not be: %d", e, at)
			}
			if _, twice := ahead[word(behind)]; twice {
				t.Fatalf("the model is wrong: %v leads to %v from two states", e, behind)
			}
			ahead[word(behind)] = s
		}
		for _, s := range states {
			wantUndo(t, s, e, ahead)
		}
	}
	if fit == 0 {
		t.Error("no event fits a state")
	}
}

// wantUndo says what Undo ought to answer: the state from which the event leads to s, if there is one.
func wantUndo(t *testing.T, s api.State, e api.Event, ahead map[string]api.State) {
	t.Helper()
	want, leads := ahead[word(s)]
	got, err := Undo(s, e)
	if !leads && (err != api.ErrEvent || !isEmpty(got)) {
		t.Fatalf("P6.2: %v on %v: %v, %d, not ErrEvent", e, s, got, err)
	}
	if leads && (err != api.OK || !same(got, want)) {
		t.Fatalf("P6.2: %v on %v: %v, %d, not %v", e, s, got, err, want)
	}
}

// layouts are all states with two players and so many cards, at most three, by where the cards stand.
func layouts(cards int) []api.State {
	empty := dealt(2, cards)
	empty.Zones = make([][]int, 8)
	l := []api.State{empty}
	for c := range cards {
		next := []api.State{}
		for _, s := range l {
			for z := range s.Zones {
				for at := range len(s.Zones[z]) + 1 {
					more := clone(s)
					more.Zones[z] = slices.Insert(more.Zones[z], at, c)
					next = append(next, more)
				}
			}
		}
		l = next
	}
	return l
}

// TestEveryMove goes through all moves of one card and of two, with all numbers of their events up to one beyond their edges.
func TestEveryMove(t *testing.T) {
	for cards := 1; cards <= 2; cards++ {
		events := []api.Event{}
		for card := -1; card <= cards; card++ {
			for from := -1; from <= 8; from++ {
				for to := -1; to <= 8; to++ {
					for at := range (cards + 2) * (cards + 2) {
						events = append(events, api.Event{Kind: api.EvMove, Card: card, From: from, FromAt: at/(cards+2) - 1, To: to, ToAt: at%(cards+2) - 1})
					}
				}
			}
		}
		wantAll(t, layouts(cards), events)
	}
}

// TestMovesOfThree has zones in which a card passes others, there and back.
func TestMovesOfThree(t *testing.T) {
	states, events := []api.State{}, []api.Event{}
	for _, s := range layouts(3) {
		if len(s.Zones[0])+len(s.Zones[7]) == 3 {
			states = append(states, s)
		}
	}
	for card := range 3 {
		for at := range 25 {
			for _, zones := range [][2]int{{0, 0}, {0, 7}, {7, 0}, {7, 7}} {
				events = append(events, api.Event{Kind: api.EvMove, Card: card, From: zones[0], FromAt: at/5 - 1, To: zones[1], ToAt: at%5 - 1})
			}
		}
	}
	wantAll(t, states, events)
}

// oddStats are stats at their ends and within, and numbers that are none.
func oddStats() (stats, all []int32) {
	stats = []int32{-api.MaxStat, -api.MaxStat + 1, -1, 0, 5, api.MaxStat - 1, api.MaxStat}
	return stats, append(slices.Clone(stats), math.MinInt32, -api.MaxStat-1, api.MaxStat+1, math.MaxInt32)
}

func TestEveryChange(t *testing.T) {
	stats, all := oddStats()
	for _, kind := range []int8{api.EvCard, api.EvPlayer} {
		for field := int8(-1); field <= 7; field++ {
			for number := -1; number <= 4; number++ {
				events := []api.Event{}
				for _, was := range all {
					for _, now := range all {
						e := api.Event{Kind: kind, Field: field, Card: number, Was: was, Now: now}
						if kind == api.EvPlayer {
							e.Card, e.Player = 0, number
						}
						events = append(events, e)
					}
				}
				wantChanges(t, kind, field, number, stats, events)
			}
		}
	}
}

// wantChanges has states in which that field is each of the stats, where there is such a field; else any state.
func wantChanges(t *testing.T, kind, field int8, number int, stats []int32, events []api.Event) {
	t.Helper()
	states := []api.State{}
	for _, stat := range stats {
		s := start()
		if kind == api.EvCard && 1 <= field && field <= 4 && within(number, 4) {
			c := &s.Cards[number]
			*[]*int32{&c.Power, &c.Health, &c.Damage, &c.Marks}[field-1] = stat
		} else if kind == api.EvPlayer && 5 <= field && within(number, 2) && field <= 6 {
			p := &s.Players[number]
			*[]*int32{&p.Life, &p.Energy}[field-5] = stat
		} else {
			wantNone(t, s, events)
			continue
		}
		states = append(states, s)
	}
	if len(states) > 0 {
		wantAll(t, states, events)
	}
}

// wantNone says that none of the events fits the state or leads to it.
func wantNone(t *testing.T, s api.State, events []api.Event) {
	t.Helper()
	for _, e := range events {
		if got, err := Apply(s, e); err != api.ErrEvent || !isEmpty(got) {
			t.Fatalf("P6.1: %v: %v, %d", e, got, err)
		}
		if got, err := Undo(s, e); err != api.ErrEvent || !isEmpty(got) {
			t.Fatalf("P6.2: %v: %v, %d", e, got, err)
		}
	}
}

// orders are all lists of up to so many numbers, each from -1 to most.
func orders(many, most int) [][]int {
	l := [][]int{nil}
	for i := 0; i < len(l); i++ {
		if len(l[i]) < many {
			for n := -1; n <= most; n++ {
				l = append(l, append(slices.Clone(l[i]), n))
			}
		}
	}
	return l
}

func TestEveryShuffle(t *testing.T) {
	states, events := []api.State{}, []api.Event{}
	for _, s := range layouts(3) {
		if len(s.Zones[0])+len(s.Zones[7]) == 3 {
			states = append(states, s)
		}
	}
	for from := -1; from <= 8; from++ {
		for _, order := range orders(4, 3) {
			events = append(events, api.Event{Kind: api.EvShuffle, From: from, Order: order})
		}
	}
	wantAll(t, states, events)
}

// TestShuffleOfAllCards has an order of as many as there may be, and some that are not of them.
func TestShuffleOfAllCards(t *testing.T) {
	r := rand.New(rand.NewSource(5))
	s := piled(4, api.MaxCards, 15)
	for range 20 {
		e := api.Event{Kind: api.EvShuffle, From: 15, Order: randomOrder(r, api.MaxCards)}
		behind, fits := wantApply(t, s, e)
		if ahead, err := Undo(behind, e); !fits || err != api.OK || !same(ahead, s) {
			t.Fatalf("P6.2: a shuffle of all cards: %d", err)
		}
		for range 50 {
			b := bentOrder(r, api.Event{Kind: e.Kind, From: 15, Order: slices.Clone(e.Order)}, 1)
			wantApply(t, s, b)
			if _, err := Undo(s, b); err != api.ErrEvent {
				t.Fatalf("P6.2: %v leads to a state", b)
			}
		}
	}
	same := make([]int, api.MaxCards)
	for i := range same {
		same[i] = i
	}
	wantNone(t, s, []api.Event{{Kind: api.EvShuffle, From: 15, Order: same}, {Kind: api.EvShuffle, From: 15, Order: make([]int, 70000)}})
}

func TestEveryOut(t *testing.T) {
	states, events := []api.State{}, []api.Event{}
	for outs := range 16 {
		s := dealt(4, 5)
		for p := range s.Players {
			s.Players[p].Out = outs>>p&1 == 1
		}
		states = append(states, s)
	}
	for player := -2; player <= 5; player++ {
		events = append(events, api.Event{Kind: api.EvOut, Player: player})
	}
	wantAll(t, states, events)
}

func TestEveryTurn(t *testing.T) {
	states, events := []api.State{}, []api.Event{}
	turns := []int32{1, 2, 3, math.MaxInt32 - 1, math.MaxInt32}
	for _, turn := range turns {
		for whose := range 3 {
			for end := range 2 {
				s := dealt(3, 5)
				s.Turn, s.Whose, s.End = turn, whose, int8(2*end)
				states = append(states, s)
			}
		}
	}
	turns = append(turns, 0, -1, -2, math.MinInt32, math.MinInt32+1)
	for _, was := range turns {
		for _, now := range append(turns, 4, was+1, was+2, was-1) {
			for player := -1; player <= 3; player++ {
				for other := -1; other <= 3; other++ {
					events = append(events, api.Event{Kind: api.EvTurn, Was: was, Now: now, Player: player, Other: other})
				}
			}
		}
	}
	wantAll(t, states, events)
}

func TestEveryEnd(t *testing.T) {
	states, events := []api.State{}, []api.Event{}
	for players := 2; players <= 4; players++ {
		states = append(states, dealt(players, 3), dealt(players, 3))
		states[len(states)-1].End = api.Drawn
		for winner := range players {
			s := dealt(players, 3)
			s.End, s.Winner = api.Won, winner
			states = append(states, s)
		}
	}
	for _, now := range []int32{-1, 0, 1, 2, 3, 256, 257, 258, -255, math.MinInt32, math.MinInt32 + 1, math.MaxInt32} {
		for player := -2; player <= 5; player++ {
			events = append(events, api.Event{Kind: api.EvEnd, Now: now, Player: player})
		}
	}
	wantAll(t, states, events)
}

func TestOtherKinds(t *testing.T) {
	s := start()
	for kind := -128; kind <= 127; kind++ {
		if kind < 1 || kind > 7 {
			wantNone(t, s, []api.Event{{Kind: int8(kind)}, {Kind: int8(kind), Card: 2, From: 1, To: 2}, {Kind: int8(kind), Player: 1}, {Kind: int8(kind), Order: []int{1, 0}}})
		}
	}
}

// fitting are an event of each kind that fits S.
func fitting() []api.Event {
	return []api.Event{
		{Kind: api.EvMove, Card: 2, From: 1, To: 2},
		{Kind: api.EvCard, Field: api.FHealth, Card: 3, Was: 2, Now: 9},
		{Kind: api.EvPlayer, Field: api.FLife, Player: 1, Was: 20, Now: 3},
		{Kind: api.EvShuffle, Order: []int{1, 0}},
		{Kind: api.EvOut, Player: 1},
		{Kind: api.EvTurn, Was: 1, Now: 2, Other: 1},
		{Kind: api.EvEnd, Now: int32(api.Won), Player: 1},
	}
}

// withNumber is the event with n at the place i of its plain numbers.
func withNumber(e api.Event, i, n int) api.Event {
	switch i {
	case 1:
		e.Field = int8(n)
	case 9:
		e.Was = int32(n)
	case 10:
		e.Now = int32(n)
	default:
		*[]*int{&e.Card, &e.Player, &e.Other, &e.From, &e.FromAt, &e.To, &e.ToAt}[i-2] = n
	}
	return e
}

func TestWhatIsNotNamedIsNothing(t *testing.T) {
	for _, e := range fitting() {
		behind, err := Apply(start(), e)
		if err != api.OK {
			t.Fatalf("P6.1: %v: %d", e, err)
		}
		spoiled := []api.Event{}
		for i := 1; i <= 10; i++ {
			if !slices.Contains(named(e.Kind), i) {
				spoiled = append(spoiled, withNumber(e, i, 1), withNumber(e, i, -1))
			}
		}
		if e.Kind != api.EvShuffle {
			for _, order := range [][]int{{0}, {1, 0}, {0, 1}} {
				more := e
				more.Order = order
				spoiled = append(spoiled, more)
			}
		}
		wantNone(t, start(), spoiled)
		wantNone(t, behind, spoiled)
		e.Order = append([]int{}, e.Order...)
		if _, err := Apply(start(), e); err != api.OK {
			t.Errorf("P6.1: %v with an order that is empty and not nil: %d (R4)", e, err)
		}
	}
}

func TestStatesThatMayNotBe(t *testing.T) {
	events := append(fitting(), api.Event{}, api.Event{Kind: 8})
	for i, s := range wrongStates() {
		for _, e := range events {
			if got, err := Apply(s, e); err != api.ErrState || !isEmpty(got) {
				t.Errorf("P6.1: the state %d, %v: %v, %d", i, e, got, err)
			}
			if got, err := Undo(s, e); err != api.ErrState || !isEmpty(got) {
				t.Errorf("P6.2: the state %d, %v: %v, %d", i, e, got, err)
			}
		}
		for _, l := range [][]api.Event{nil, events, {{}, {}}} {
			if got, at, err := Replay(s, l); err != api.ErrState || at != 0 || !isEmpty(got) {
				t.Errorf("P6.3: the state %d: Replay: %v, %d, %d", i, got, at, err)
			}
			if got, at, err := Back(s, l); err != api.ErrState || at != 0 || !isEmpty(got) {
				t.Errorf("P6.3: the state %d: Back: %v, %d, %d", i, got, at, err)
			}
		}
	}
}

// TestThereAndBack: Undo of what Apply answered is the state, Apply of what Undo answered likewise, on games of all sizes.
func TestThereAndBack(t *testing.T) {
	r := rand.New(rand.NewSource(6))
	for _, size := range [][2]int{{2, 1}, {2, 2}, {3, 12}, {4, 40}, {4, api.MaxCards}} {
		s := dealt(size[0], size[1])
		for range 400 {
			e := someEvent(r, s)
			behind, fits := wantApply(t, s, e)
			wantApply(t, s, bent(r, e))
			if b := bent(r, e); fits {
				wantTaken(t, behind, b)
			}
			wantTaken(t, s, e)
			if !fits || e.Kind == api.EvEnd {
				continue
			}
			wantBack(t, s, e, behind)
			s = behind
		}
	}
}

// wantBack says that the event leads from s to behind, there and back.
func wantBack(t *testing.T, s api.State, e api.Event, behind api.State) {
	t.Helper()
	got, err := Undo(behind, e)
	if err != api.OK || !same(got, s) {
		t.Fatalf("P6.2: Undo of what Apply answered, by %v: %v, %d, not %v", e, got, err, s)
	}
	if again, err := Apply(got, e); err != api.OK || !same(again, behind) {
		t.Fatalf("P6.1: Apply of what Undo answered, by %v: %v, %d, not %v", e, again, err, behind)
	}
}

// wantTaken says that what Undo answers with OK may be, and that the event leads from there to s.
func wantTaken(t *testing.T, s api.State, e api.Event) {
	t.Helper()
	ahead, err := Undo(s, e)
	if err == api.ErrEvent && isEmpty(ahead) {
		return
	}
	if fault, at := state.Check(ahead); err != api.OK || fault != api.OK {
		t.Fatalf("P6.2: %v: %d; %d at %d", e, err, fault, at)
	}
	if behind, fits := modelApply(ahead, e); !fits || !same(behind, s) {
		t.Fatalf("P6.2: %v does not lead to %v from %v", e, s, ahead)
	}
}

// tale is a list of events, each of which fits what the ones ahead of it lead to, and the states from the first to the last.
func tale(r *rand.Rand, s api.State, many int) ([]api.Event, []api.State) {
	l, states := []api.Event{}, []api.State{s}
	for range many {
		e := someFitting(r, s)
		s, _ = modelApply(s, e)
		l, states = append(l, e), append(states, s)
	}
	return l, states
}

func TestReplayAndBack(t *testing.T) {
	r := rand.New(rand.NewSource(7))
	for _, size := range [][2]int{{2, 1}, {2, 2}, {3, 12}, {4, api.MaxCards}} {
		for _, many := range []int{0, 1, 2, 7, 60} {
			l, states := tale(r, dealt(size[0], size[1]), many)
			first, last := states[0], states[many]
			if got, at, err := Replay(first, l); err != api.OK || at != 0 || !same(got, last) {
				t.Errorf("P6.3: Replay of %d events: %v, %d, %d, not %v", many, got, at, err, last)
			}
			if got, at, err := Back(last, l); err != api.OK || at != 0 || !same(got, first) {
				t.Errorf("P6.3: Back of %d events: %v, %d, %d, not %v", many, got, at, err, first)
			}
		}
	}
}

// TestTheFirstThatDoesNotFit lays, at each place of a list, an event that does not fit there, with others behind and ahead that do not fit either.
func TestTheFirstThatDoesNotFit(t *testing.T) {
	r := rand.New(rand.NewSource(8))
	l, states := tale(r, dealt(3, 9), 12)
	wrong := api.Event{Kind: api.EvOut, Player: 3}
	for i := range l {
		one := slices.Clone(l)
		one[i] = wrong
		behind := slices.Clone(l)
		ahead := slices.Clone(l)
		for k := range l {
			if k >= i {
				behind[k] = wrong
			}
			if k <= i {
				ahead[k] = wrong
			}
		}
		for _, list := range [][]api.Event{one, behind} {
			if got, at, err := Replay(states[0], list); err != api.ErrEvent || at != i || !isEmpty(got) {
				t.Errorf("P6.3: Replay with a wrong event at %d: %v, %d, %d", i, got, at, err)
			}
		}
		for _, list := range [][]api.Event{one, ahead} {
			if got, at, err := Back(states[len(l)], list); err != api.ErrEvent || at != i || !isEmpty(got) {
				t.Errorf("P6.3: Back with a wrong event at %d: %v, %d, %d", i, got, at, err)
			}
		}
	}
}

// TestOneByOne: Replay and Back are Apply and Undo, event by event, wherever they stop.
func TestOneByOne(t *testing.T) {
	r := rand.New(rand.NewSource(9))
	for range 300 {
		s := dealt(2+r.Intn(3), 1+r.Intn(6))
		l, states := tale(r, s, 8)
		i := r.Intn(len(l))
		l[i] = bent(r, l[i])
		wantSteps(t, s, l, 0, 1, Replay, Apply)
		wantSteps(t, states[len(l)], l, len(l)-1, -1, Back, Undo)
	}
}

// wantSteps holds the whole of a list against its single steps, from the place at on.
func wantSteps(t *testing.T, s api.State, l []api.Event, at, by int, whole func(api.State, []api.Event) (api.State, int, api.Errno), step func(api.State, api.Event) (api.State, api.Errno)) {
	t.Helper()
	got, place, err := whole(s, l)
	for within(at, len(l)) {
		next, fault := step(s, l[at])
		if fault != api.OK {
			if err != fault || place != at || !isEmpty(got) {
				t.Fatalf("P6.3: of %v: %v, %d, %d, not %d at %d", l, got, place, err, fault, at)
			}
			return
		}
		s, at = next, at+by
	}
	if err != api.OK || place != 0 || !same(got, s) {
		t.Fatalf("P6.3: of %v: %v, %d, %d, not %v", l, got, place, err, s)
	}
}

func TestExamples(t *testing.T) {
	s := start()
	move := api.Event{Kind: api.EvMove, ToAt: 1}
	behind, err := Apply(s, move)
	if err != api.OK || !slices.Equal(behind.Zones[0], []int{1, 0}) {
		t.Errorf("P6.1: the deck is %v, %d", behind.Zones, err)
	}
	if _, err := Apply(behind, move); err != api.ErrEvent {
		t.Errorf("P6.1: the move once more: %d", err)
	}
	turn := api.Event{Kind: api.EvTurn, Was: 1, Now: 2, Other: 1}
	if got, err := Apply(s, turn); err != api.OK || got.Turn != 2 || got.Whose != 1 {
		t.Errorf("P6.1: turn %d of player %d, %d", got.Turn, got.Whose, err)
	}
	if _, err := Undo(s, turn); err != api.ErrEvent {
		t.Errorf("P6.2: turn 2 taken back from turn 1: %d", err)
	}
	if _, err := Apply(s, api.Event{Kind: api.EvCard, Field: api.FDamage, Card: 3}); err != api.ErrEvent {
		t.Errorf("P6.1: damage 0 to 0: %d", err)
	}
	if got, err := Undo(s, api.Event{Kind: api.EvCard, Field: api.FDamage, Card: 3, Was: 5}); err != api.OK || got.Cards[3].Damage != 5 {
		t.Errorf("P6.2: damage 5 to 0: %v, %d", got.Cards, err)
	}
	if _, err := Undo(s, api.Event{Kind: api.EvOut}); err != api.ErrEvent {
		t.Errorf("P6.2: out 0: %d", err)
	}
	out := api.Event{Kind: api.EvOut, Player: 1}
	if got, at, err := Replay(s, []api.Event{out, out}); err != api.ErrEvent || at != 1 || !isEmpty(got) {
		t.Errorf("P6.3: out 1, out 1: %v, %d, %d", got, at, err)
	}
	if got, at, err := Back(s, nil); err != api.OK || at != 0 || !same(got, s) {
		t.Errorf("P6.3: Back of none: %v, %d, %d", got, at, err)
	}
}

// TestCardsStayTheSame: whatever events lead to has the same cards, with the same kinds and owners, each in one zone.
func TestCardsStayTheSame(t *testing.T) {
	r := rand.New(rand.NewSource(10))
	first := dealt(4, 30)
	l, _ := tale(r, first, 300)
	for n := range l {
		s, _, err := Replay(first, l[:n+1])
		if fault, at := state.Check(s); err != api.OK || fault != api.OK {
			t.Fatalf("P6.3: %d; %d at %d", err, fault, at)
		}
		for c := range first.Cards {
			if s.Cards[c].Kind != first.Cards[c].Kind || s.Cards[c].Owner != first.Cards[c].Owner {
				t.Fatalf("P6.3: the card %d is %v", c, s.Cards[c])
			}
		}
	}
}
