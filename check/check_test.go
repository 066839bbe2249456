package check

import (
	"slices"
	"strings"
	"testing"

	"tableau/api"
	"tableau/parse"
	"tableau/tokens"
	"tableau/tree"
)

// parsed is the source's tree.
func parsed(t *testing.T, src string) []api.Node {
	t.Helper()
	l, why, at := tokens.Cut([]byte(src))
	if why != api.OK {
		t.Fatalf("layer 8: %s: %d at %d", short(src), why, at)
	}
	n, why, at := parse.Pack(l)
	if why != api.OK {
		t.Fatalf("layer 10: %s: %d at %d", short(src), why, at)
	}
	return n
}

// in is a card with an ability of these statements; they begin at 21.
func in(statements string) string {
	return `card "A" { on play { ` + statements + ` } }`
}

// when is a card with an ability of this condition.
func when(condition string) string {
	return `card "A" { on play when ` + condition + ` { } }`
}

// unmarked is the source without its one @, and where that stood.
func unmarked(t *testing.T, marked string) (string, int) {
	t.Helper()
	src, behind, ok := strings.Cut(marked, "@")
	if !ok || strings.Contains(behind, "@") {
		t.Fatalf("not one place in %s", short(marked))
	}
	return src + behind, len(src)
}

// elsewhere is the tree with its nodes at other places, and where what stood at a place is then.
func elsewhere(l []api.Node) ([]api.Node, func(at int) int) {
	move := func(at int) int { return 1<<40 - 3*at }
	l = slices.Clone(l)
	for i := range l {
		l[i].At = move(l[i].At)
	}
	return l, move
}

// short is the source as it is told where something is wrong with it.
func short(src string) string {
	if len(src) <= 400 {
		return src
	}
	return src[:200] + " .. " + src[len(src)-200:]
}

// wantRefused holds that the tree is refused so.
func wantRefused(t *testing.T, what string, l []api.Node, why api.Errno, at int) {
	t.Helper()
	if d, e, place := Pack(l); e != why || place != at || d != nil {
		t.Errorf("P13.1: %s: %d designs, %d at %d, not %d at %d", short(what), len(d), e, place, why, at)
	}
}

// wantFault holds that the source is refused where its @ stands, wherever its nodes are said to stand, with a card ahead of it, and whatever is wrong behind it.
func wantFault(t *testing.T, marked string, why api.Errno) {
	t.Helper()
	src, at := unmarked(t, marked)
	l := parsed(t, src)
	wantRefused(t, marked, l, why, at)
	moved, move := elsewhere(l)
	wantRefused(t, marked+" (elsewhere)", moved, why, move(at))
	wantRefused(t, marked+" (with faults behind)", parsed(t, src+` card "Z" { cost 1; cost 1; on play { wave(x); } } card "A" { }`), why, at)
	const ahead = `card "ahead" { cost 1; power 1; health 1; tag "x"; tag "y"; on play when self.power < 1 { let x = 1; let y = x; repeat 2 as i { y = x; } } } `
	wantRefused(t, marked+" (with a card ahead)", parsed(t, ahead+src), why, len(ahead)+at)
}

// wantOK is the designs of a source that must have some; each of its abilities is Able.
func wantOK(t *testing.T, src string) []api.Design {
	t.Helper()
	l := parsed(t, src)
	d, e, at := Pack(l)
	if e != api.OK || at != 0 {
		t.Errorf("P13.1: %s: %d at %d", short(src), e, at)
		return nil
	}
	if len(d) != l[0].Kids {
		t.Errorf("P13.1: %s: %d designs", short(src), len(d))
	}
	holdAbilities(t, src, l, d)
	return d
}

// holdAbilities holds that each ability is Able, and that its nodes are those of the tree, with the same Op, At and Kids.
func holdAbilities(t *testing.T, src string, l []api.Node, d []api.Design) {
	t.Helper()
	src = short(src)
	var able []api.Ability
	for _, x := range d {
		able = append(able, x.Able...)
	}
	for at, on := range l {
		if on.Op != api.TOn {
			continue
		}
		if len(able) == 0 {
			t.Fatalf("P13.1: %s: too few abilities", src)
		}
		a := able[0]
		able = able[1:]
		if !Able(a) {
			t.Errorf("P13.2: %s: the ability at %d is not Able", src, on.At)
		}
		if int64(a.On) != on.N || a.When != (on.Kids == 2) || len(a.Tree) != tree.Behind(l, at)-at-1 {
			t.Fatalf("P13.1: %s: the ability at %d: On %d, When %v, %d nodes", src, on.At, a.On, a.When, len(a.Tree))
		}
		for i, n := range a.Tree {
			if was := l[at+1+i]; n.Op != was.Op || n.At != was.At || n.Kids != was.Kids {
				t.Errorf("P13.1: %s: %v was %v", src, n, was)
			}
		}
	}
	if len(able) != 0 {
		t.Errorf("P13.1: %s: %d abilities too many", src, len(able))
	}
}

func TestExamplesOfFaults(t *testing.T) {
	for _, x := range []struct {
		src string
		why api.Errno
		at  int
	}{
		{`card "A" {} card "A" {}`, api.ErrTwice, 12}, {`card "A" { cost 1; cost 1; }`, api.ErrTwice, 19}, {`card "A" { power 1000000001; }`, api.ErrSize, 11},
		{in("let x = x;"), api.ErrName, 29}, {in("let x = 1; let x = 2;"), api.ErrName, 32}, {in("if true { let x = 1; } hit(self, x);"), api.ErrName, 54},
		{in("self = self;"), api.ErrSet, 21}, {in("repeat 3 as i { i = 1; }"), api.ErrSet, 37}, {in("y = 1;"), api.ErrName, 21},
		{in("let x = 1 + true;"), api.ErrType, 33}, {in("hit(self);"), api.ErrArgs, 21}, {in("hit(self, me);"), api.ErrType, 31}, {in("wave();"), api.ErrCall, 21}, {in("let x = self.size;"), api.ErrType, 29}, {in("let x = self.wings;"), api.ErrCall, 34},
		{in("let b = self.place.cards == self.place.cards;"), api.ErrType, 40}, {in("let z = zone(me, me);"), api.ErrType, 38}, {in("let z = is(self, hand);"), api.ErrType, 38},
		{in("repeat 256 as i { }"), api.ErrSize, 21},
	} {
		wantRefused(t, x.src, parsed(t, x.src), x.why, x.at)
	}
}

// The examples of DOC.md that are checked.
func TestExamplesOfTheWhole(t *testing.T) {
	wantRefused(t, "DOC.md, 2", parsed(t, "card \"a\" {\n  on play { let x = y; }\n}"), api.ErrName, 31)
	wantRefused(t, "DOC.md, 2", parsed(t, `card "a" { on play { draw(1); } }`), api.ErrType, 26)
	for _, src := range []string{
		"", `card "Bolt" { cost 1; power 2; health 1; on play { harm(next(me), 3); } }`,
		`card "a" { on play { choose c in zone(next(me), deck).cards { move(c, zone(me, hand)); } else { abort; } } }`,
		`card "a" { power 1; health 1; on die { gain(me, 2); } } card "b" { power 3; health 2; }`,
		`card "a" { on play { gain(me, 9223372036854775807 + 1); harm(me, -9223372036854775807 - 9); gain(me, 1 / 0); } }`,
	} {
		wantOK(t, src)
	}
}

func TestWhatIsNoTree(t *testing.T) {
	good := parsed(t, in("if true { let x = 1; } repeat 2 as i { hit(self, i); }")+` card "B" { tag "x"; cost 1; }`)
	lists := [][]api.Node{nil, {}, good[1:], append(slices.Clone(good), api.Node{Op: api.TCard}), {{Op: api.TPack, Kids: -1}}, {{Op: api.TPack, Kids: 1 << 62}}, {{}}}
	for i := range good {
		lists = append(lists, good[:i])
		for _, turn := range []func(n *api.Node){
			func(n *api.Node) { n.Op++ }, func(n *api.Node) { n.Op = -n.Op }, func(n *api.Node) { n.Kind = api.KInt }, func(n *api.Node) { n.M = 1 }, func(n *api.Node) { n.N = -1 }, func(n *api.Node) { n.At = -1 },
			func(n *api.Node) { n.Text += "\n" }, func(n *api.Node) { n.Kids++ }, func(n *api.Node) { n.Kids-- },
		} {
			l := slices.Clone(good)
			turn(&l[i])
			lists = append(lists, l)
		}
	}
	refused := 0
	for _, l := range lists {
		why, at := tree.Check(l)
		if why == api.OK {
			continue
		}
		refused++
		if why != api.ErrTree {
			t.Errorf("layer 9: %v: %d", l, why)
		}
		wantRefused(t, "no tree", l, why, at)
	}
	if refused < 150 {
		t.Errorf("%d lists are no trees: too few", refused)
	}
	wantRefused(t, "no nodes", nil, api.ErrTree, 0)
	wantRefused(t, "no nodes", []api.Node{}, api.ErrTree, 0)
}

// A tree that is too deep is refused ahead of all that is wrong in it; faults of the tree's form are, too.
func TestTheTreeIsAskedFirst(t *testing.T) {
	row := func(marks int) []api.Node {
		l := []api.Node{{Op: api.TPack, Kids: 1}, {Op: api.TCard, Kids: 1}, {Op: api.TOn, Kids: 2}}
		l = append(l, slices.Repeat([]api.Node{{Op: api.TAdd, Kids: 2, At: 5}}, marks)...)
		l = append(l, slices.Repeat([]api.Node{{Op: api.TNum, At: 7}}, marks+1)...)
		return append(l, api.Node{Op: api.TBlock})
	}
	wantRefused(t, "a row of 65 marks", row(65), api.ErrType, 5)
	wantRefused(t, "a row of 66 marks", row(66), api.ErrDepth, 0)
	l := parsed(t, in("wave();")+in("stop;"))
	l[len(l)-1].N = 1
	wantRefused(t, "no tree behind a fault", l, api.ErrTree, len(l)-1)
}
