package check

import (
	"slices"
	"strings"
	"testing"
	"unsafe"

	"tableau/api"
)

// givenTrees are some that are checked, some that are refused, for many reasons.
func givenTrees(t *testing.T) [][]api.Node {
	t.Helper()
	l := [][]api.Node{nil, {{Op: api.TPack, Kids: 1}}, {{Op: api.TCard}}}
	sources := append(someAbilities(), "", `card "A" { }`, cards(257), `card "A" { tag "x"; tag "x"; }`, in("wave();"), in("let x = x;"), in("hit(self);"), in("me = me;"), in("let x = 1 + true;"), in(lets(31)),
		`card "Fox" { cost 1; tag "x"; tag "beast"; on play when is(self, "beast") { let x = 1; each c in `+list+` { if is(c, "x") { x = x + 1; } } } on die { repeat 3 as i { draw(me); } } } card "Owl" { tag "x"; on hit { stop; } } card "x" { }`)
	for _, src := range sources {
		l = append(l, parsed(t, src))
	}
	return l
}

// roomy is the list with spare room behind it, in which more of a tree stands.
func roomy[T any](l []T, more ...T) []T {
	whole := slices.Concat(l, more)
	return whole[:len(l)]
}

func roomyTree(l []api.Node) []api.Node {
	return roomy(l, api.Node{Op: api.TStop}, api.Node{Op: api.TBlock, Kids: 2}, api.Node{Op: -1, Text: "spare"})
}

// spoilers is what spoils each list of the designs, spare room too, one by one.
func spoilers(d []api.Design) []func() {
	spoilTags := func(l []string) func() {
		return func() {
			for i := range l[:cap(l)] {
				l[:cap(l)][i] = "spoiled"
			}
		}
	}
	var all []func()
	for i := range d {
		all = append(all, spoilTags(d[i].Tags))
		for j := range d[i].Able {
			all = append(all, func() { spoilAbility(&d[i].Able[j]) })
		}
		able := d[i].Able
		all = append(all, func() {
			for j := range able[:cap(able)] {
				able[:cap(able)][j] = api.Ability{On: -9}
			}
		})
	}
	return append(all, func() {
		for i := range d[:cap(d)] {
			d[:cap(d)][i] = api.Design{Name: "spoiled"}
		}
	})
}

// spoilAbility writes over the ability's slots and nodes, spare room too.
func spoilAbility(a *api.Ability) {
	slots, nodes := a.Slots[:cap(a.Slots)], a.Tree[:cap(a.Tree)]
	for i := range slots {
		slots[i] = -9
	}
	for i := range nodes {
		nodes[i] = api.Node{Op: -9, Kind: -9, N: -9, M: -9, Text: "spoiled", At: -9, Kids: -9}
	}
}

func TestTreesStayAsTheyWere(t *testing.T) {
	for _, x := range givenTrees(t) {
		l := roomyTree(x)
		before := slices.Clone(l[:cap(l)])
		d, _, _ := Pack(l)
		for _, spoil := range spoilers(d) {
			spoil()
		}
		if !slices.Equal(l[:cap(l)], before) {
			t.Errorf("P13.1: %v is changed (R5)", x)
		}
	}
}

func TestAbilitiesStayAsTheyWere(t *testing.T) {
	for _, x := range givenTrees(t) {
		d, _, _ := Pack(x)
		for _, design := range d {
			for _, a := range design.Able {
				for _, turn := range []func(a *api.Ability){func(*api.Ability) {}, func(a *api.Ability) { a.Tree[0].At = -1 }, func(a *api.Ability) { a.Slots[1] = 9 }} {
					b := copied(a)
					turn(&b)
					b.Slots, b.Tree = roomy(b.Slots, kInt, kBool), roomyTree(b.Tree)
					slots, nodes := slices.Clone(b.Slots[:cap(b.Slots)]), slices.Clone(b.Tree[:cap(b.Tree)])
					Able(b)
					if !slices.Equal(b.Slots[:cap(b.Slots)], slots) || !slices.Equal(b.Tree[:cap(b.Tree)], nodes) {
						t.Errorf("P13.2: %v is changed (R5)", a)
					}
				}
			}
		}
	}
}

// TestSpareRoomIsNoPartOfAList: a list ends where it ends, whatever stands behind it in memory.
func TestSpareRoomIsNoPartOfAList(t *testing.T) {
	for _, x := range givenTrees(t) {
		d, why, at := Pack(slices.Clip(slices.Clone(x)))
		e, f, place := Pack(roomyTree(x))
		if !sameDesigns(d, e) || why != f || at != place {
			t.Errorf("P13.1: %v with spare room: %d, %d; not %d, %d", x, f, place, why, at)
		}
		for _, design := range d {
			for _, a := range design.Able {
				a.Slots, a.Tree = roomy(a.Slots, kInt), roomyTree(a.Tree)
				wantAble(t, "an ability with spare room", a, true)
			}
		}
	}
}

// R4: a list that is nil and one that is empty are the same.
func TestEmptyLists(t *testing.T) {
	for _, l := range [][]api.Node{nil, {}, make([]api.Node, 0, 9)} {
		wantRefused(t, "an empty list", l, api.ErrTree, 0)
		for _, slots := range [][]int8{nil, {}, make([]int8, 0, 9), {kCard, kPlayer}} {
			wantAble(t, "an empty list", api.Ability{Slots: slots, Tree: l}, false)
		}
	}
}

// No two lists of an answer share memory: each is spoiled, and all others stay as they were.
func TestListsHaveTheirOwnMemory(t *testing.T) {
	for _, x := range givenTrees(t) {
		want, _, _ := Pack(x)
		many := len(spoilers(want))
		for i := range many {
			d, _, _ := Pack(slices.Clone(x))
			kept := whole(d) // in memory of its own, but for texts
			spoilers(d)[i]()
			changed := 0
			for j := range d {
				if !slices.Equal(d[j].Tags, kept[j].Tags) {
					changed++
				}
				for k := range d[j].Able {
					a, b := d[j].Able[k], kept[j].Able[k]
					if a.On == b.On && !(slices.Equal(a.Slots, b.Slots) && slices.Equal(a.Tree, b.Tree)) {
						changed++
					}
				}
			}
			last := i == many-1
			if changed > 1 && !last {
				t.Errorf("P13.1: %v: %d lists are changed with one (R5)", x, changed)
			}
		}
	}
}

// Within an ability its slots and its nodes are two lists, and the designs of two calls, and what was handed in, know nothing of each other.
func TestAnswersHaveTheirOwnMemory(t *testing.T) {
	for _, x := range givenTrees(t) {
		l := slices.Clone(x)
		first, why, at := Pack(l)
		second, _, _ := Pack(l)
		want := whole(first)
		for i := range l {
			l[i] = api.Node{Op: -9, Kids: -9, Text: "spoiled"}
		}
		if !sameDesigns(first, want) {
			t.Errorf("P13.1: the designs of %v are others behind the tree was spoiled (R5)", x)
		}
		for _, spoil := range spoilers(first) {
			spoil()
		}
		if !sameDesigns(second, want) {
			t.Errorf("P13.1: the designs of %v are others behind the first ones were spoiled (R5)", x)
		}
		if third, e, place := Pack(x); !sameDesigns(third, want) || e != why || place != at {
			t.Errorf("P13.1: %v: another answer the next time (R5, R6)", x)
		}
	}
}

// texts is where the texts of the designs lie.
func texts(d []api.Design) []string {
	var l []string
	for _, x := range d {
		l = append(append(l, x.Name), x.Tags...)
		for _, a := range x.Able {
			for _, n := range a.Tree {
				l = append(l, n.Text)
			}
		}
	}
	return slices.DeleteFunc(l, func(s string) bool { return s == "" })
}

func TestTextsHaveTheirOwnMemory(t *testing.T) {
	many := 0
	for _, x := range givenTrees(t) {
		given := map[*byte]bool{}
		for _, n := range x {
			if n.Text != "" {
				given[unsafe.StringData(n.Text)] = true
			}
		}
		d, _, _ := Pack(x)
		for _, s := range texts(d) {
			many++
			if given[unsafe.StringData(s)] {
				t.Errorf("P13.1: the text %q shares memory with the tree (R5)", s)
			}
		}
	}
	if many < 10 {
		t.Errorf("%d texts: too few", many)
	}
}

// Beside an error all else is zero (R2).
func TestRefusedTreesHaveNoDesigns(t *testing.T) {
	refused := 0
	for _, x := range givenTrees(t) {
		d, why, at := Pack(x)
		if why == api.OK && at != 0 || why != api.OK && d != nil {
			t.Errorf("P13.1: %v: %d designs, %d, %d (R2)", x, len(d), why, at)
		}
		if why != api.OK {
			refused++
		}
	}
	if refused < 10 {
		t.Errorf("%d trees are refused: too few", refused)
	}
}

// Time goes up with the number of nodes alone.
func TestGreatTrees(t *testing.T) {
	able := "on play { " + strings.Repeat("if self.power < 1 { let x = self.owner.life; } ", 30) + heavy(1500) + "} "
	one := parsed(t, `card "0" { `+able+`}`)
	l := []api.Node{{Op: api.TPack, Kids: 64}}
	for i := range 64 {
		l = append(l, api.Node{Op: api.TCard, Text: "card " + string(rune('a'+i/16)) + string(rune('a'+i%16)), Kids: 8})
		for range 8 {
			l = append(l, one[2:]...)
		}
	}
	d, why, at := Pack(l)
	if why != api.OK || at != 0 || len(d) != 64 || len(d[63].Able) != 8 || len(d[63].Able[7].Tree) != len(one)-3 {
		t.Errorf("P13.1: %d nodes: %d designs, %d at %d", len(l), len(d), why, at)
	}
}
