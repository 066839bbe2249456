package mean_test

import (
	"slices"
	"strings"
	"testing"

	"tableau/api"
	"tableau/check"
	"tableau/deed"
	"tableau/mean"
	"tableau/parse"
	"tableau/state"
	"tableau/tokens"
)

// parsed is the tree of the source, with names in it.
func parsed(t testing.TB, src string) []api.Node {
	t.Helper()
	l, why, at := tokens.Cut([]byte(src))
	if why != api.OK {
		t.Fatalf("%s: %d at %d", src, why, at)
	}
	n, why, at := parse.Pack(l)
	if why != api.OK {
		t.Fatalf("%s: %d at %d", src, why, at)
	}
	return n
}

// designs is the designs of the source's cards.
func designs(t testing.TB, src string) []api.Design {
	t.Helper()
	d, why, at := check.Pack(parsed(t, src))
	if why != api.OK {
		t.Fatalf("%s: %d at %d", src, why, at)
	}
	return d
}

// fox is the document's design with this ability.
func fox(t testing.TB, on string) []api.Design {
	t.Helper()
	return designs(t, `card "Fox" { tag "beast"; `+on+` }`)
}

// does is fox with an ability that has these statements.
func does(t testing.TB, statements string) []api.Design {
	t.Helper()
	return fox(t, "on play { "+statements+" }")
}

// start is the document's state S.
func start() api.State {
	s := api.State{
		Players: []api.Player{{Life: 20}, {Life: 20}},
		Zones:   [][]int{{0, 1}, nil, nil, nil, nil, nil, {2}, nil},
		Turn:    1,
	}
	for _, owner := range []int{0, 0, 1} {
		s.Cards = append(s.Cards, api.Card{Owner: owner, Power: 1, Health: 2})
	}
	return s
}

// dealt is a state that may be, with cards of the kind 0 laid out over all zones but the last one, the last ones first; no two fields of it are the same.
func dealt(players, cards int) api.State {
	s := api.State{Players: make([]api.Player, players), Zones: make([][]int, 4*players), Turn: 7, Whose: players - 1}
	for p := range s.Players {
		s.Players[p] = api.Player{Life: int32(1000 + p), Energy: int32(-2000 - p), Out: p%2 == 1}
	}
	for c := range cards {
		n := int32(c)
		s.Cards = append(s.Cards, api.Card{Owner: (c + 1) % players, Power: 10000 + n, Health: 20000 + n, Damage: -30000 - n, Marks: 40000 + n})
	}
	for c := cards - 1; c >= 0; c-- {
		z := c * 3 % (len(s.Zones) - 1)
		s.Zones[z] = append(s.Zones[z], c)
	}
	return s
}

// piled is a state of two players with so many cards of the kind 0 in the deck of player 0, in their order.
func piled(cards int) api.State {
	s := api.State{Players: make([]api.Player, 2), Cards: make([]api.Card, cards), Zones: make([][]int, 8), Turn: 1}
	for c := range cards {
		s.Zones[0] = append(s.Zones[0], c)
	}
	return s
}

// want: what a run is to come to. Its state is the one behind the trace, all else is 0.
type want struct {
	end   int8
	why   api.Errno
	ask   int64
	used  int
	trace string // the events' texts, with "; " between
}

func done(used int, trace ...string) want {
	return want{api.Done, 0, 0, used, strings.Join(trace, "; ")}
}

func aborted(why api.Errno, used int, trace ...string) want {
	return want{api.Aborted, why, 0, used, strings.Join(trace, "; ")}
}

func starved(ask int64, used int, trace ...string) want {
	return want{api.Starved, 0, ask, used, strings.Join(trace, "; ")}
}

// texts is the events as texts. (What a text does not say of an event must be 0, or it fits no state.)
func texts(l []api.Event) string {
	var told []string
	for _, e := range l {
		told = append(told, deed.Text(e))
	}
	return strings.Join(told, "; ")
}

// sound is the Result of a run that is not refused; it holds what the document says of each one.
func sound(t testing.TB, what string, d []api.Design, s api.State, card, player int, answers []int64) api.Result {
	t.Helper()
	r, why := mean.Run(d, 0, 0, s, card, player, answers)
	if why != api.OK {
		t.Fatalf("P14.1: %s: refused, %d", what, why)
	}
	wantSound(t, what, s, answers, r)
	return r
}

func wantSound(t testing.TB, what string, s api.State, answers []int64, r api.Result) {
	t.Helper()
	behind, at, why := deed.Replay(s, r.Trace)
	if why != api.OK {
		t.Fatalf("P14.2: %s: the event %d fits no state: %s", what, at, texts(r.Trace))
	}
	if !state.Same(behind, r.State) {
		t.Fatalf("P14.2: %s: the state is not the one behind the trace: %v, not %v", what, r.State, behind)
	}
	if why, at := state.Check(r.State); why != api.OK {
		t.Fatalf("P14.2: %s: the state may not be: %d", what, at)
	}
	if r.At != 0 || r.Gas != 0 || r.Used < 0 || r.Used > len(answers) {
		t.Fatalf("P14.2: %s: At %d, Gas %d, Used %d of %d", what, r.At, r.Gas, r.Used, len(answers))
	}
	reasons := []api.Errno{api.ErrDivide, api.ErrEmpty, api.ErrRandom, api.ErrAbort}
	ends := map[int8]bool{
		api.Done:    r.Err == 0 && r.Ask == 0,
		api.Aborted: slices.Contains(reasons, r.Err) && r.Ask == 0,
		api.Starved: r.Err == 0 && r.Ask > 0,
	}
	if !ends[r.End] {
		t.Fatalf("P14.2: %s: End %d, Err %d, Ask %d", what, r.End, int(r.Err), r.Ask)
	}
}

// wantRun runs the first ability of the first design.
func wantRun(t testing.TB, what string, d []api.Design, s api.State, card, player int, answers []int64, w want) {
	t.Helper()
	r := sound(t, what, d, s, card, player, answers)
	got := want{r.End, r.Err, r.Ask, r.Used, texts(r.Trace)}
	if got != w {
		t.Errorf("P14.2: %s, answers %v:\n%+v, not\n%+v", what, answers, got, w)
	}
}

// wantDoes runs these statements on the document's state, for the card 0 and the player 0.
func wantDoes(t testing.TB, statements string, answers []int64, w want) {
	t.Helper()
	wantRun(t, statements, does(t, statements), start(), 0, 0, answers, w)
}

// sameResult tells whether both are the same, nil and an empty list being one.
func sameResult(a, b api.Result) bool {
	same := func(x, y api.Event) bool {
		return slices.Equal(x.Order, y.Order) && plain(x) == plain(y)
	}
	return state.Same(a.State, b.State) && slices.EqualFunc(a.Trace, b.Trace, same) &&
		a.End == b.End && a.Err == b.Err && a.At == b.At && a.Ask == b.Ask && a.Gas == b.Gas && a.Used == b.Used
}

// plain is all numbers of an event.
func plain(e api.Event) [11]int {
	return [11]int{int(e.Kind), int(e.Field), e.Card, e.Player, e.Other, e.From, e.FromAt, e.To, e.ToAt, int(e.Was), int(e.Now)}
}

// isZero tells whether nothing stands in the Result.
func isZero(r api.Result) bool {
	return sameResult(r, api.Result{})
}
