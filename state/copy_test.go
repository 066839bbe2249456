package state

import (
	"math"
	"reflect"
	"slices"
	"testing"

	"tableau/api"
)

// withRoom is the list with three things of spare room behind it.
func withRoom[T any](l []T, filled T) []T {
	whole := append(slices.Clone(l), filled, filled, filled)
	return whole[: len(l) : len(l)+3]
}

// roomy is the state with spare room behind each of its lists, in which something stands.
func roomy(s api.State) api.State {
	s.Players = withRoom(s.Players, api.Player{Life: 77, Out: true})
	s.Cards = withRoom(s.Cards, api.Card{Kind: 77})
	zones := make([][]int, len(s.Zones))
	for z := range zones {
		zones[z] = withRoom(s.Zones[z], 77)
	}
	s.Zones = withRoom(zones, []int{77})
	return s
}

// whole is the state with its spare room, each list in memory of its own.
func whole(s api.State) api.State {
	s.Players = slices.Clone(s.Players[:cap(s.Players)])
	s.Cards = slices.Clone(s.Cards[:cap(s.Cards)])
	zones := [][]int{}
	for _, zone := range s.Zones[:cap(s.Zones)] {
		zones = append(zones, slices.Clone(zone[:cap(zone)]))
	}
	s.Zones = zones
	return s
}

// spoil fills all lists of the state, spare room too; each zone with a number of its own, so that zones that share memory are seen.
func spoil(s api.State) {
	for i := range s.Players[:cap(s.Players)] {
		s.Players[:cap(s.Players)][i] = api.Player{Life: -99, Energy: -99}
	}
	for i := range s.Cards[:cap(s.Cards)] {
		s.Cards[:cap(s.Cards)][i] = api.Card{Kind: -99}
	}
	for z, zone := range s.Zones[:cap(s.Zones)] {
		for i := range zone[:cap(zone)] {
			zone[:cap(zone)][i] = -100 - z
		}
	}
}

// wantApart looks whether each zone still holds what spoil wrote there: no two lists share memory.
func wantApart(t *testing.T, what string, s api.State) {
	t.Helper()
	spoil(s)
	for z, zone := range s.Zones[:cap(s.Zones)] {
		for _, n := range zone[:cap(zone)] {
			if n != -100-z {
				t.Fatalf("%s: the zone %d shares memory (R5)", what, z)
			}
		}
	}
}

// oddStates are states of which many may not be.
func oddStates() []api.State {
	l := []api.State{
		{}, small(), dealt(2, 1), dealt(4, api.MaxCards), dealt(3, 300), dealt(7, 9),
		{Zones: [][]int{nil, {}, {1, 2, 3}, {-5}}, Turn: -1, Whose: math.MaxInt, End: -3, Winner: math.MinInt},
		{Players: []api.Player{{Life: math.MinInt32, Energy: math.MaxInt32, Out: true}}, Turn: math.MinInt32},
		{Cards: []api.Card{{Kind: -1, Owner: 1 << 40, Power: math.MinInt32, Marks: math.MaxInt32}}, End: math.MaxInt8},
	}
	for _, s := range l {
		l = append(l, roomy(s))
	}
	return l
}

func TestCopyIsTheSame(t *testing.T) {
	for i, s := range oddStates() {
		c := Copy(s)
		if !slices.Equal(c.Players, s.Players) || !slices.Equal(c.Cards, s.Cards) || !slices.EqualFunc(c.Zones, s.Zones, slices.Equal[[]int]) {
			t.Errorf("P5.2: the lists of the copy of %d are others: %v", i, c)
		}
		if c.Turn != s.Turn || c.Whose != s.Whose || c.End != s.End || c.Winner != s.Winner {
			t.Errorf("P5.2: the copy of %d has Turn %d, Whose %d, End %d, Winner %d", i, c.Turn, c.Whose, c.End, c.Winner)
		}
		if !Same(s, c) || !Same(c, s) || !Same(s, s) {
			t.Errorf("P5.2: the state %d and its copy are not the same", i)
		}
		e, n := Check(s)
		if ec, nc := Check(c); ec != e || nc != n {
			t.Errorf("P5.1: of the copy of %d: %d, %d, not %d, %d", i, ec, nc, e, n)
		}
	}
}

func TestCopyHasItsOwnMemory(t *testing.T) {
	for i, s := range oddStates() {
		before := whole(s)
		c := Copy(s)
		wantApart(t, "P5.2: the copy", c)
		if after := whole(s); !reflect.DeepEqual(before, after) {
			t.Errorf("P5.2: the state %d is another one behind its copy was spoiled (R5)", i)
		}
		c = Copy(s)
		kept := Copy(c)
		spoil(s)
		if !Same(c, kept) {
			t.Errorf("P5.2: the copy of %d is another one behind the state was spoiled (R5)", i)
		}
	}
}

func TestCopyOfZonesThatShareMemory(t *testing.T) {
	list := []int{1, 2, 3, 4}
	s := api.State{Zones: [][]int{list, list[:2], list[1:3], list[4:], list}}
	c := Copy(s)
	if !Same(s, c) {
		t.Errorf("P5.2: %v is copied as %v", s.Zones, c.Zones)
	}
	wantApart(t, "P5.2: the copy", c)
	if !slices.Equal(list, []int{1, 2, 3, 4}) {
		t.Errorf("P5.2: the zones are %v (R5)", list)
	}
}

func TestCopyHidesNoSpareRoom(t *testing.T) {
	c := Copy(roomy(small()))
	for _, p := range c.Players[:cap(c.Players)][len(c.Players):] {
		if p != (api.Player{}) {
			t.Errorf("P5.2: behind the players stands %v (R5)", p)
		}
	}
	for _, x := range c.Cards[:cap(c.Cards)][len(c.Cards):] {
		if x != (api.Card{}) {
			t.Errorf("P5.2: behind the cards stands %v (R5)", x)
		}
	}
	for _, zone := range c.Zones[:cap(c.Zones)] {
		if slices.Contains(zone[:cap(zone)], 77) {
			t.Errorf("P5.2: behind a zone stands %v (R5)", zone[:cap(zone)])
		}
	}
}

// differences change one field of a state each.
func differences() []func(s *api.State) {
	l := []func(s *api.State){
		func(s *api.State) { s.Turn++ },
		func(s *api.State) { s.Whose-- },
		func(s *api.State) { s.End = api.Drawn },
		func(s *api.State) { s.Winner++ },
		func(s *api.State) { s.Players = s.Players[:2] },
		func(s *api.State) { s.Players = append(s.Players, api.Player{}) },
		func(s *api.State) { s.Players[0], s.Players[2] = s.Players[2], s.Players[0] },
		func(s *api.State) { s.Cards = s.Cards[1:] },
		func(s *api.State) { s.Cards = append(s.Cards, api.Card{}) },
		func(s *api.State) { s.Cards[0], s.Cards[1] = s.Cards[1], s.Cards[0] },
		func(s *api.State) { s.Zones = s.Zones[:11] },
		func(s *api.State) { s.Zones = append(s.Zones, nil) },
		func(s *api.State) { s.Players = nil },
		func(s *api.State) { s.Cards = nil },
		func(s *api.State) { s.Zones = nil },
	}
	for p := range 3 {
		l = append(l,
			func(s *api.State) { s.Players[p].Life++ },
			func(s *api.State) { s.Players[p].Energy++ },
			func(s *api.State) { s.Players[p].Out = !s.Players[p].Out })
	}
	for c := range 20 {
		l = append(l,
			func(s *api.State) { s.Cards[c].Kind += 5 },
			func(s *api.State) { s.Cards[c].Owner -= 7 },
			func(s *api.State) { s.Cards[c].Power += 100 },
			func(s *api.State) { s.Cards[c].Health = 9 },
			func(s *api.State) { s.Cards[c].Damage = 9 },
			func(s *api.State) { s.Cards[c].Marks += 100 })
	}
	for z := range 12 {
		l = append(l,
			func(s *api.State) { s.Zones[z] = append(s.Zones[z], 0) },
			func(s *api.State) { s.Zones[z] = s.Zones[z][:len(s.Zones[z])-1] },
			func(s *api.State) { s.Zones[z][len(s.Zones[z])-1] += 50 },
			func(s *api.State) { s.Zones[z][0]-- },
			func(s *api.State) { s.Zones[z] = nil })
	}
	return l
}

func TestSameTellsEachFieldApart(t *testing.T) {
	s := dealt(3, 20)
	for _, zone := range s.Zones {
		if len(zone) == 0 {
			t.Fatal("a zone is empty")
		}
	}
	l := differences()
	turned := make([]api.State, len(l))
	for i, change := range l {
		turned[i] = Copy(s)
		change(&turned[i])
		if Same(s, turned[i]) || Same(turned[i], s) {
			t.Errorf("P5.2: the change %d is not seen", i)
		}
		if !Same(turned[i], Copy(turned[i])) {
			t.Errorf("P5.2: the state of the change %d is not the same as itself", i)
		}
	}
}

// TestSameOfAnyTwo holds Same against what the library says of lists that are no longer nil.
func TestSameOfAnyTwo(t *testing.T) {
	l := append(oddStates(), dealt(3, 5), dealt(3, 5))
	for _, c := range changes() {
		s := dealt(3, 5)
		c.turn(&s)
		l = append(l, s)
	}
	plain := make([]api.State, len(l))
	for i, s := range l {
		plain[i] = filled(s)
	}
	for i, a := range l {
		for j, b := range l {
			if got, want := Same(a, b), reflect.DeepEqual(plain[i], plain[j]); got != want {
				t.Errorf("P5.2: of the states %d and %d: %v", i, j, got)
			}
		}
	}
}

// filled is the state in memory of its own, by the library's means, with empty lists in the place of nil.
func filled(s api.State) api.State {
	s.Players = append([]api.Player{}, s.Players...)
	s.Cards = append([]api.Card{}, s.Cards...)
	zones := [][]int{}
	for _, zone := range s.Zones {
		zones = append(zones, append([]int{}, zone...))
	}
	s.Zones = zones
	return s
}

func TestNothingIsAnEmptyList(t *testing.T) {
	empty := api.State{Players: []api.Player{}, Cards: []api.Card{}, Zones: [][]int{}}
	if !Same(empty, api.State{}) || !Same(api.State{}, empty) || !Same(Copy(empty), Copy(api.State{})) {
		t.Error("P5.2: nothing and empty lists are told apart (R4)")
	}
	a, b := small(), filled(small())
	if !Same(a, b) || !Same(b, a) || !Same(Copy(a), b) || !Same(a, Copy(b)) {
		t.Error("P5.2: nothing and empty zones are told apart (R4)")
	}
	wantCheck(t, "empty zones", b, -1)
	if !Same(roomy(a), b) || !Same(b, roomy(a)) {
		t.Error("P5.2: spare room tells apart (R4)")
	}
}

func TestStatesThatAreAskedStayAsTheyWere(t *testing.T) {
	for i, s := range oddStates() {
		before := whole(s)
		Check(s)
		Same(s, s)
		for card := -1; card <= len(s.Cards); card++ {
			Where(s, card)
		}
		if after := whole(s); !reflect.DeepEqual(before, after) {
			t.Errorf("P5.1, P5.2, P5.3: the state %d has changed (R5)", i)
		}
	}
}
