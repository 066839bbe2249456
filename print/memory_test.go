package print

import (
	"bytes"
	"math"
	"slices"
	"testing"

	"tableau/api"
)

// someLists are trees, and lists that are none.
func someLists() [][]api.Node {
	g := newGrower(5)
	l := [][]api.Node{nil, node(api.TPack).laid(), bigTree(), bigTree()[:9], append(bigTree(), num(1).Node)}
	for i := range 50 {
		l = append(l, g.anew(10*i).laid())
	}
	return l
}

// roomy is the list with spare room behind it, in which more nodes stand.
func roomy(l []api.Node) []api.Node {
	whole := slices.Concat(l, []api.Node{{Op: api.TCard, Text: "spare"}, {Op: api.TStop}, {Op: -1, Kids: 5}})
	return whole[:len(l)]
}

// spoil writes over all of the bytes, spare room too.
func spoil(b []byte) {
	b = b[:cap(b)]
	for i := range b {
		b[i] = '#'
	}
}

func TestWhatWasGivenStaysAsItWas(t *testing.T) {
	for _, x := range someLists() {
		l := roomy(x)
		before := slices.Clone(l[:cap(l)])
		b, e := Tree(l)
		want, f := Tree(slices.Clip(slices.Clone(x)))
		if !bytes.Equal(b, want) || e != f {
			t.Errorf("P11.2: %v with spare room: %q, %d", x, b, e)
		}
		spoil(b)
		if !slices.Equal(l[:cap(l)], before) {
			t.Errorf("P11.2: %v is changed (R5)", x)
		}
	}
}

func TestSourcesHaveTheirOwnMemory(t *testing.T) {
	for _, x := range someLists() {
		l := slices.Clone(x)
		first, e := Tree(l)
		second, _ := Tree(l)
		want := bytes.Clone(first)
		for i := range l {
			l[i] = api.Node{Op: -9, Text: "spoiled", Kids: -9}
		}
		if !bytes.Equal(first, want) {
			t.Errorf("P11.2: the source of %v is another one behind the list was spoiled (R5)", x)
		}
		spoil(first)
		if !bytes.Equal(second, want) {
			t.Errorf("P11.2: the source of %v is another one behind the first one was spoiled (R5)", x)
		}
		spoil(second)
		if third, f := Tree(x); !bytes.Equal(third, want) || f != e {
			t.Errorf("P11.2: %v: another answer the next time (R6)", x)
		}
	}
}

// TestNoElementsAndNil: they are the same (R4).
func TestNoElementsAndNil(t *testing.T) {
	a, e := Tree(nil)
	b, f := Tree([]api.Node{})
	if len(a) != 0 || len(b) != 0 || e != f || e != api.ErrTree {
		t.Errorf("P11.2: nil and no nodes: %q, %d; %q, %d (R4)", a, e, b, f)
	}
}

// TestPlacesSayNothing: wherever the nodes stand, the source is the same.
func TestPlacesSayNothing(t *testing.T) {
	for _, x := range someLists() {
		want, e := Tree(x)
		for _, at := range []int{0, 1, 77, api.MaxSource + 1, math.MaxInt} {
			l := slices.Clone(x)
			for i := range l {
				l[i].At = at
			}
			if b, f := Tree(l); !bytes.Equal(b, want) || f != e {
				t.Errorf("P11.1: %v, all at %d: %q, %d", x, at, b, f)
			}
		}
	}
}
