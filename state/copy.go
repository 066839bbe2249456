package state

import (
	"slices"

	"tableau/api"
)

// Copy is the state in memory of its own, whatever it is.
func Copy(s api.State) api.State {
	c := s
	c.Players = copyList(s.Players)
	c.Cards = copyList(s.Cards)
	c.Zones = make([][]int, len(s.Zones))
	for z, entries := range s.Zones {
		c.Zones[z] = copyList(entries)
	}
	return c
}

func copyList[T any](l []T) []T {
	c := make([]T, len(l))
	copy(c, l)
	return c
}

// Same tells whether all fields of the two states are the same, list by list.
func Same(a, b api.State) bool {
	return slices.Equal(a.Players, b.Players) &&
		slices.Equal(a.Cards, b.Cards) &&
		slices.EqualFunc(a.Zones, b.Zones, slices.Equal[[]int]) &&
		headOf(a) == headOf(b)
}

// head: what of a state is no list.
type head struct {
	turn   int32
	whose  int
	end    int8
	winner int
}

func headOf(s api.State) head {
	return head{turn: s.Turn, whose: s.Whose, end: s.End, winner: s.Winner}
}
