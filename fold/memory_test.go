package fold_test

import (
	"fmt"
	"math/rand"
	"slices"
	"testing"

	"tableau/api"
	"tableau/fold"
)

// odd is a node that no ability has.
var odd = api.Node{Op: -9, Kind: -9, N: -9, M: -9, Text: "odd", At: -9, Kids: -9}

// roomy is the list with three things of spare room behind it.
func roomy[T any](l []T, filled T) []T {
	more := append(slices.Clone(l), filled, filled, filled)
	return more[: len(l) : len(l)+3]
}

// all is the list with its spare room, in memory of its own.
func all[T any](l []T) []T { return slices.Clone(l[:cap(l)]) }

// spoil writes over the list and its spare room.
func spoil[T any](l []T, with T) {
	for i := range l[:cap(l)] {
		l[:cap(l)][i] = with
	}
}

// given is abilities that may be, some with nothing to be folded, and some that may not be.
func given(t *testing.T) []api.Ability {
	l := []api.Ability{{}, {Tree: whole(1)}, does(), able(t, "on hit when me.out { stop; }"), able(t, "on die when 1 < 2 { }")}
	for _, line := range []string{"let x = 1 + 2; gain(me, x);", "if false { let x = 1; } let y = -3; hit(self, y - 1);", "repeat 0 as i { } each c in self.place.cards { hit(c, 1 / 0); }", "draw(me); draw(me);", "if is(self, \"beast\") { if true { abort; } }"} {
		l = append(l, able(t, "on play { "+line+" }"))
	}
	r := rand.New(rand.NewSource(2))
	for range 60 {
		l = append(l, grown(r))
	}
	return l
}

func TestWhatIsHandedInStays(t *testing.T) {
	for _, a := range given(t) {
		a.Slots, a.Tree = roomy(a.Slots, 9), roomy(a.Tree, odd)
		slots, tree := all(a.Slots), all(a.Tree)
		b, why := fold.Able(a)
		fold.Value(a.Tree)
		if !slices.Equal(all(a.Slots), slots) || !slices.Equal(all(a.Tree), tree) {
			t.Fatalf("P15.2: an ability is changed: %v, once %v", a, tree)
		}
		spoil(b.Slots, -7)
		spoil(b.Tree, odd)
		if !slices.Equal(all(a.Slots), slots) || !slices.Equal(all(a.Tree), tree) {
			t.Fatalf("P15.2: what is answered (%d) shares memory with what was handed in: %v, once %v", int(why), a, tree)
		}
	}
	for _, e := range []string{"2 * 3 + -1", "1 / 0", "abs(-9223372036854775807 - 2)", "me.life"} {
		l := roomy(expr(t, e, api.KInt), odd)
		before := all(l)
		fold.Value(l)
		if !slices.Equal(all(l), before) {
			t.Fatalf("P15.1: %s is changed: %v", e, l)
		}
	}
}

// TestSpareRoom says that what stands behind a list is no part of it, and does not come out.
func TestSpareRoom(t *testing.T) {
	for _, a := range given(t) {
		want, why := fold.Able(a)
		a.Slots, a.Tree = roomy(a.Slots, 9), roomy(a.Tree, odd)
		b, other := fold.Able(a)
		if why != other || fmt.Sprint(want) != fmt.Sprint(b) {
			t.Fatalf("P15.2: %v with spare room is %v, %d", a, b, int(other))
		}
		if slices.Contains(all(b.Tree), odd) || slices.Contains(all(b.Slots), 9) {
			t.Fatalf("P15.2: what stood behind %v stands in %v", a, all(b.Tree))
		}
	}
}

// TestAnswersStay says that no answer shares memory with a later one, or a later one with it, nor its lists with one another.
func TestAnswersStay(t *testing.T) {
	for _, a := range given(t) {
		b, why := fold.Able(a)
		want := fmt.Sprint(b, int(why))
		c, other := fold.Able(a)
		if got := fmt.Sprint(c, int(other)); got != want {
			t.Fatalf("P15.2: %v the second time: %s, not %s", a, got, want)
		}
		spoil(c.Slots, -7)
		spoil(c.Tree, odd)
		if got := fmt.Sprint(b, int(why)); got != want {
			t.Fatalf("P15.2: a later answer's memory was that of %s: %s", want, got)
		}
		slots := all(b.Slots)
		spoil(b.Tree, odd)
		if !slices.Equal(all(b.Slots), slots) {
			t.Fatalf("P15.2: the lists of %s share memory", want)
		}
		c, other = fold.Able(a)
		if got := fmt.Sprint(c, int(other)); got != want {
			t.Fatalf("P15.2: %v later: %s, not %s", a, got, want)
		}
	}
}

// TestFoldedTwiceIsItsOwn says that an ability that comes back as it is comes back in new memory.
func TestFoldedTwiceIsItsOwn(t *testing.T) {
	for _, a := range given(t) {
		b, _ := fold.Able(a)
		want := fmt.Sprint(b)
		c, _ := fold.Able(b)
		spoil(c.Slots, -7)
		spoil(c.Tree, odd)
		if got := fmt.Sprint(b); got != want {
			t.Fatalf("P15.2: %s folded again is not of its own memory: %s", want, got)
		}
	}
}

// TestNilAndEmpty says that a list that is nil and one that is empty are the same.
func TestNilAndEmpty(t *testing.T) {
	for _, l := range [][]api.Node{nil, {}, make([]api.Node, 0, 3)} {
		if v, ok := fold.Value(l); ok || v.Kind != 0 || v.N != 0 || len(v.List) > 0 {
			t.Errorf("P15.1: nothing has the value %v", v)
		}
		for _, slots := range [][]int8{nil, {}, make([]int8, 0, 3), {api.KCard, api.KPlayer}} {
			wantRefused(t, "no tree", api.Ability{Slots: slots, Tree: l})
		}
	}
}

// TestOrderOfCalls says that calls know nothing of each other.
func TestOrderOfCalls(t *testing.T) {
	l := given(t)
	tell := func(a api.Ability) string {
		b, why := fold.Able(a)
		v, ok := fold.Value(a.Tree)
		return fmt.Sprint(b, int(why), v, ok)
	}
	var want []string
	for _, a := range l {
		want = append(want, tell(a))
	}
	for _, i := range rand.New(rand.NewSource(3)).Perm(len(l)) {
		if got := tell(l[i]); got != want[i] {
			t.Fatalf("P15.2: %v in another order: %s, not %s", l[i], got, want[i])
		}
	}
}
