package image

import (
	"bytes"
	"reflect"
	"slices"
	"testing"

	"tableau/api"
)

// withRoom is the list with three things of spare room behind it.
func withRoom[T any](l []T, filled T) []T {
	whole := append(slices.Clone(l), filled, filled, filled)
	return whole[: len(l) : len(l)+3]
}

// roomy is the state with spare room behind each of its lists, in which something stands.
func roomy(s api.State) api.State {
	s.Players = withRoom(s.Players, api.Player{Life: 77, Out: true})
	s.Cards = withRoom(s.Cards, api.Card{Kind: 77})
	zones := make([][]int, len(s.Zones))
	for z := range zones {
		zones[z] = withRoom(s.Zones[z], 77)
	}
	s.Zones = withRoom(zones, []int{77})
	return s
}

// whole is the state with its spare room, each list in memory of its own.
func whole(s api.State) api.State {
	s.Players = slices.Clone(s.Players[:cap(s.Players)])
	s.Cards = slices.Clone(s.Cards[:cap(s.Cards)])
	zones := [][]int{}
	for _, zone := range s.Zones[:cap(s.Zones)] {
		zones = append(zones, slices.Clone(zone[:cap(zone)]))
	}
	s.Zones = zones
	return s
}

// spoil fills all lists of the state, spare room too; each zone with a number of its own, so that zones that share memory are seen.
func spoil(s api.State) {
	for i := range s.Players[:cap(s.Players)] {
		s.Players[:cap(s.Players)][i] = api.Player{Life: -99, Energy: -99}
	}
	for i := range s.Cards[:cap(s.Cards)] {
		s.Cards[:cap(s.Cards)][i] = api.Card{Kind: -99}
	}
	for z, zone := range s.Zones[:cap(s.Zones)] {
		for i := range zone[:cap(zone)] {
			zone[:cap(zone)][i] = -100 - z
		}
	}
}

// fill writes n over all of the bytes, spare room too.
func fill(b []byte, n byte) {
	b = b[:cap(b)]
	for i := range b {
		b[i] = n
	}
}

func TestEncodeLeavesTheStateAlone(t *testing.T) {
	l := edges()
	for _, w := range wrongs() {
		l = append(l, w.s)
	}
	for _, given := range l {
		s := roomy(given)
		before := whole(s)
		b, _ := Encode(s)
		Sum(s)
		fill(b, 0xee)
		if !reflect.DeepEqual(whole(s), before) {
			t.Fatalf("P7.1: the state is changed: %v (R5)", s)
		}
	}
}

func TestImagesHaveTheirOwnMemory(t *testing.T) {
	for _, given := range edges() {
		s := roomy(given)
		a, _ := Encode(s)
		b, _ := Encode(s)
		kept := lay(given).b
		fill(a, 0xee)
		spoil(s)
		if !bytes.Equal(b, kept) {
			t.Fatalf("P7.1: the image is another one behind what was given, and another image, were spoiled (R5)")
		}
		if again, _ := Encode(given); !bytes.Equal(again, kept) {
			t.Fatalf("P7.1: another image is another one behind the first was spoiled (R5)")
		}
	}
}

func TestDecodeLeavesTheBytesAlone(t *testing.T) {
	l := [][]byte{nil, {}, []byte("TBLS\x01"), turned(smallImage(), 14, 2), smallImage()[:90], append(smallImage(), 0)}
	for _, s := range edges() {
		l = append(l, lay(s).b)
	}
	for _, w := range wrongs() {
		l = append(l, lay(w.s).b)
	}
	for _, given := range l {
		b := withRoom(given, 77)
		before := bytes.Clone(b[:cap(b)])
		s, _, _ := Decode(b)
		spoil(s)
		if !bytes.Equal(b[:cap(b)], before) {
			t.Fatalf("P7.2: the bytes are changed: %x (R5)", b[:cap(b)])
		}
	}
}

func TestStatesHaveTheirOwnMemory(t *testing.T) {
	for _, want := range edges() {
		b := withRoom(lay(want).b, 77)
		first, _, _ := Decode(b)
		second, _, _ := Decode(b)
		fill(b, 0xee)
		spoil(first)
		if !same(second, want) {
			t.Fatalf("P7.2: the state is another one behind the bytes, and another state, were spoiled (R5)")
		}
		for z, zone := range first.Zones[:cap(first.Zones)] {
			for _, n := range zone[:cap(zone)] {
				if n != -100-z {
					t.Fatalf("P7.2: the zone %d shares memory (R5)", z)
				}
			}
		}
	}
}
