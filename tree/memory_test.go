package tree

import (
	"slices"
	"testing"

	"tableau/api"
)

// roomy is the list with spare room behind it, in which more of a tree stands.
func roomy(l []api.Node) []api.Node {
	whole := slices.Concat(l, []api.Node{{Op: api.TStop}, {Op: api.TBlock, Kids: 2}, {Op: -1, Text: "spare"}})
	return whole[:len(l)]
}

func someLists() [][]api.Node {
	l := append(wholeTrees(), nil, counts(-1), counts(3, 0, 1, 0, 0), counts(9, 0), ability(nested(70)))
	for _, whole := range wholeTrees() {
		l = append(l, whole[:len(whole)-1])
	}
	return l
}

func callAll(l []api.Node) {
	Check(l)
	Depth(l)
	Weight(l)
	Same(l, l)
	for at := -1; at <= len(l)+1; at++ {
		Behind(l, at)
		spoil(Kids(l, at))
	}
}

// spoil writes over all of the places, spare room too.
func spoil(places []int) {
	places = places[:cap(places)]
	for i := range places {
		places[i] = -9
	}
}

func TestWhatWasGivenStaysAsItWas(t *testing.T) {
	for _, x := range someLists() {
		l := roomy(x)
		before := slices.Clone(l[:cap(l)])
		callAll(l)
		Same(l, roomy(x))
		Same(roomy(x), l)
		if !slices.Equal(l[:cap(l)], before) {
			t.Errorf("P9.1 to P9.4: %v is changed (R5)", x)
		}
	}
}

// TestSpareRoomIsNoPartOfTheList: a list ends where it ends, whatever stands behind it in memory.
func TestSpareRoomIsNoPartOfTheList(t *testing.T) {
	for _, x := range someLists() {
		l := roomy(x)
		e, at := Check(x)
		if f, place := Check(l); f != e || place != at {
			t.Errorf("P9.1: %v with spare room: %d, %d; not %d, %d", x, f, place, e, at)
		}
		if Depth(l) != Depth(x) || Weight(l) != Weight(x) || !Same(l, x) {
			t.Errorf("P9.3, P9.4: %v with spare room", x)
		}
		for at := -1; at <= len(x)+1; at++ {
			if Behind(l, at) != Behind(x, at) || !slices.Equal(Kids(l, at), Kids(x, at)) {
				t.Errorf("P9.2: %v with spare room, at %d", x, at)
			}
		}
	}
}

func TestPlacesHaveTheirOwnMemory(t *testing.T) {
	for _, x := range someLists() {
		for at := range x {
			l := slices.Clone(x)
			first, second := Kids(l, at), Kids(l, at)
			want := slices.Clone(first)
			for i := range l {
				l[i] = api.Node{Kids: 1}
			}
			if !slices.Equal(first, want) {
				t.Errorf("P9.2: the kids of %v are others behind the list was spoiled (R5)", x)
			}
			spoil(first)
			if !slices.Equal(second, want) {
				t.Errorf("P9.2: the kids of %v are others behind other ones were spoiled (R5)", x)
			}
			if !slices.Equal(Kids(x, at), want) {
				t.Errorf("P9.2: the kids of %v are others the next time (R5, R6)", x)
			}
		}
	}
}

func TestTheSameAnswersTheNextTime(t *testing.T) {
	for _, x := range someLists() {
		e, at := Check(x)
		d, w := Depth(x), Weight(x)
		callAll(ability(nested(70)))
		callAll(counts(-1))
		if f, place := Check(x); f != e || place != at || Depth(x) != d || Weight(x) != w {
			t.Errorf("P9.1, P9.3: %v: other answers the next time (R6)", x)
		}
	}
}
