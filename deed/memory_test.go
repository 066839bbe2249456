package deed

import (
	"math/rand"
	"reflect"
	"slices"
	"testing"

	"tableau/api"
)

// withRoom is the list with three things of spare room behind it.
func withRoom[T any](l []T, filled T) []T {
	whole := append(slices.Clone(l), filled, filled, filled)
	return whole[: len(l) : len(l)+3]
}

// roomy is the state with spare room behind each of its lists, in which something stands.
func roomy(s api.State) api.State {
	s.Players = withRoom(s.Players, api.Player{Life: 77, Out: true})
	s.Cards = withRoom(s.Cards, api.Card{Kind: 77})
	zones := make([][]int, len(s.Zones))
	for z := range zones {
		zones[z] = withRoom(s.Zones[z], 77)
	}
	s.Zones = withRoom(zones, []int{77})
	return s
}

// whole is the state with its spare room, each list in memory of its own.
func whole(s api.State) api.State {
	s.Players = slices.Clone(s.Players[:cap(s.Players)])
	s.Cards = slices.Clone(s.Cards[:cap(s.Cards)])
	zones := [][]int{}
	for _, zone := range s.Zones[:cap(s.Zones)] {
		zones = append(zones, slices.Clone(zone[:cap(zone)]))
	}
	s.Zones = zones
	return s
}

// roomyEvents are the events with spare room behind their orders and behind the list.
func roomyEvents(l []api.Event) []api.Event {
	own := []api.Event{}
	for _, e := range l {
		e.Order = withRoom(e.Order, 77)
		own = append(own, e)
	}
	return withRoom(own, api.Event{Kind: 77})
}

// wholeEvents are the events with their spare room, each order in memory of its own.
func wholeEvents(l []api.Event) []api.Event {
	own := slices.Clone(l[:cap(l)])
	for i, e := range own {
		own[i].Order = slices.Clone(e.Order[:cap(e.Order)])
	}
	return own
}

// spoil fills all lists of the state, spare room too; each zone with a number of its own, so that zones that share memory are seen.
func spoil(s api.State) {
	for i := range s.Players[:cap(s.Players)] {
		s.Players[:cap(s.Players)][i] = api.Player{Life: -99, Energy: -99}
	}
	for i := range s.Cards[:cap(s.Cards)] {
		s.Cards[:cap(s.Cards)][i] = api.Card{Kind: -99}
	}
	for z, zone := range s.Zones[:cap(s.Zones)] {
		for i := range zone[:cap(zone)] {
			zone[:cap(zone)][i] = -100 - z
		}
	}
}

// wantApart spoils the state and looks whether each zone holds what was written there: no two lists share memory.
func wantApart(t *testing.T, what string, s api.State) {
	t.Helper()
	spoil(s)
	for z, zone := range s.Zones[:cap(s.Zones)] {
		for _, n := range zone[:cap(zone)] {
			if n != -100-z {
				t.Fatalf("%s: the zone %d shares memory (R5)", what, z)
			}
		}
	}
}

// wantOwn calls with the state and the events, and says that both stay as they were and that the answer is memory of its own.
func wantOwn(t *testing.T, what string, s api.State, l []api.Event, call func(s api.State, l []api.Event) api.State) {
	t.Helper()
	s, l = roomy(s), roomyEvents(l)
	state, events := whole(s), wholeEvents(l)
	got := call(s, l)
	if !reflect.DeepEqual(whole(s), state) || !reflect.DeepEqual(wholeEvents(l), events) {
		t.Fatalf("%s: what was given is changed (R5)", what)
	}
	kept := clone(got)
	wantApart(t, what, got)
	if !reflect.DeepEqual(whole(s), state) || !reflect.DeepEqual(wholeEvents(l), events) {
		t.Fatalf("%s: the answer shares memory with what was given (R5)", what)
	}
	got = call(s, l)
	spoil(s)
	for _, e := range l {
		for i := range e.Order[:cap(e.Order)] {
			e.Order[:cap(e.Order)][i] = -77
		}
	}
	if !same(got, kept) {
		t.Fatalf("%s: the answer is another one behind what was given was spoiled (R5)", what)
	}
}

func TestStatesHaveTheirOwnMemory(t *testing.T) {
	r := rand.New(rand.NewSource(11))
	for _, size := range [][2]int{{2, 1}, {3, 20}, {4, 50}} {
		for range 60 {
			l, states := tale(r, dealt(size[0], size[1]), 6)
			wantOwn(t, "P6.1: Apply", states[0], l[:1], func(s api.State, l []api.Event) api.State {
				got, _ := Apply(s, l[0])
				return got
			})
			wantOwn(t, "P6.2: Undo", states[1], l[:1], func(s api.State, l []api.Event) api.State {
				got, _ := Undo(s, l[0])
				return got
			})
			for n := range len(l) + 1 {
				wantOwn(t, "P6.3: Replay", states[0], l[:n], func(s api.State, l []api.Event) api.State {
					got, _, _ := Replay(s, l)
					return got
				})
				wantOwn(t, "P6.3: Back", states[n], l[:n], func(s api.State, l []api.Event) api.State {
					got, _, _ := Back(s, l)
					return got
				})
			}
		}
	}
}

func TestRefusedCallsChangeNothing(t *testing.T) {
	l := append(fitting(), api.Event{Kind: api.EvShuffle, Order: []int{1, 1}})
	for i := range l {
		s, events := roomy(start()), roomyEvents(l[i:])
		state, before := whole(s), wholeEvents(events)
		Apply(s, l[len(l)-1])
		Undo(s, events[0])
		Replay(s, events)
		Back(s, events)
		if !reflect.DeepEqual(whole(s), state) || !reflect.DeepEqual(wholeEvents(events), before) {
			t.Errorf("P6.3: what was given is changed, from the event %d on (R5)", i)
		}
	}
}

func TestOrdersHaveTheirOwnMemory(t *testing.T) {
	order := withRoom([]int{1, 0}, 77)
	l, err := Shuffle(start(), 0, order)
	if err != api.OK || len(l) != 1 {
		t.Fatalf("P6.4: %v, %d", l, err)
	}
	own := l[0].Order[:cap(l[0].Order)]
	for i := range own {
		own[i] = -5
	}
	if !slices.Equal(order[:cap(order)], []int{1, 0, 77, 77, 77}) {
		t.Errorf("P6.4: the order is %v (R5)", order[:cap(order)])
	}
	l, _ = Shuffle(start(), 0, order)
	order[0], order[1] = 0, 0
	if !slices.Equal(l[0].Order, []int{1, 0}) {
		t.Errorf("P6.4: the event's order is %v (R5)", l[0].Order)
	}
}

func TestDeedsLeaveTheStateAlone(t *testing.T) {
	for _, given := range append(wrongStates(), start(), dealt(4, 50)) {
		s := roomy(given)
		before := whole(s)
		for n := -1; n <= 20; n++ {
			Move(s, n, n/2, n%2 == 0)
			Change(s, int8(n%9), n, int64(n))
			Shuffle(s, n, []int{1, 0})
			Draw(s, n)
			Out(s, n)
		}
		if !reflect.DeepEqual(whole(s), before) {
			t.Errorf("P6.4: the state is changed: %v (R5)", s)
		}
	}
}
