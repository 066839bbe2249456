package fold_test

import (
	"fmt"
	"slices"
	"testing"

	"tableau/api"
	"tableau/check"
	"tableau/fold"
	"tableau/mean"
	"tableau/parse"
	"tableau/tokens"
	"tableau/tree"
)

// designs is what the source's cards are checked as.
func designs(t testing.TB, src string) []api.Design {
	t.Helper()
	l, why, at := tokens.Cut([]byte(src))
	if why != api.OK {
		t.Fatalf("%s: not cut, %d at %d", src, int(why), at)
	}
	n, why, at := parse.Pack(l)
	if why != api.OK {
		t.Fatalf("%s: not parsed, %d at %d", src, int(why), at)
	}
	d, why, at := check.Pack(n)
	if why != api.OK {
		t.Fatalf("%s: not checked, %d at %d", src, int(why), at)
	}
	return d
}

// able is the ability of a card with this line.
func able(t testing.TB, line string) api.Ability {
	t.Helper()
	return designs(t, `card "a" { `+line+` }`)[0].Able[0]
}

// expr is an expression of ints, or of bools, as nodes.
func expr(t testing.TB, src string, kind int8) []api.Node {
	t.Helper()
	if kind == api.KBool {
		l := able(t, "on play when "+src+" {}").Tree
		return l[:len(l)-1]
	}
	return able(t, "on play { gain(me, "+src+"); }").Tree[3:]
}

// op is a node and its kids.
func op(n api.Node, kids ...[]api.Node) []api.Node {
	n.Kids = len(kids)
	return append([]api.Node{n}, slices.Concat(kids...)...)
}

func whole(n int64) []api.Node {
	return op(api.Node{Op: api.TNum, Kind: api.KInt, N: n})
}

func boolean(b bool) []api.Node {
	if b {
		return op(api.Node{Op: api.TTrue, Kind: api.KBool})
	}
	return op(api.Node{Op: api.TFalse, Kind: api.KBool})
}

func ints(o int8, kids ...[]api.Node) []api.Node {
	return op(api.Node{Op: o, Kind: api.KInt}, kids...)
}

func bools(o int8, kids ...[]api.Node) []api.Node {
	return op(api.Node{Op: o, Kind: api.KBool}, kids...)
}

// call is a call of a function that tells an int.
func call(function int64, kids ...[]api.Node) []api.Node {
	return op(api.Node{Op: api.TCall, Kind: api.KInt, N: function}, kids...)
}

// gains is an ability without a condition: me gains this many.
func gains(e []api.Node) api.Ability {
	me := op(api.Node{Op: api.TName, Kind: api.KPlayer, N: 1})
	return does(op(api.Node{Op: api.TDo, N: 5}, me, e))
}

// does is an ability without a condition and variables.
func does(statements ...[]api.Node) api.Ability {
	return api.Ability{Slots: []int8{api.KCard, api.KPlayer}, Tree: op(api.Node{Op: api.TBlock}, statements...)}
}

// start is a state that may be: three cards, of the kind 0, in the deck and the hand of player 0 and on the board of player 1.
func start() api.State {
	return api.State{
		Players: []api.Player{{Life: 20}, {Life: 20, Energy: 3}},
		Cards:   []api.Card{{Power: 1, Health: 2}, {Power: 4, Health: 5, Owner: 1}, {Marks: -1}},
		Zones:   [][]int{{0, 2}, nil, nil, nil, nil, nil, {1}, nil},
		Turn:    1,
	}
}

// within is designs in which the ability stands, with others around it: it is the ability 1 of the design 1.
func within(a api.Ability) []api.Design {
	return []api.Design{{Name: "b", Tags: []string{"beast"}}, {Name: "a", Tags: []string{"x y"}, Able: []api.Ability{does(), a, does()}}}
}

// game: what an ability is run on.
type game struct {
	s       api.State
	card    int
	player  int
	answers []int64
}

// run is what it comes to.
func (g game) run(a api.Ability) (api.Result, api.Errno) {
	return mean.Run(within(a), 1, 1, g.s, g.card, g.player, g.answers)
}

// wantAlike says that both come to the same in this game.
func wantAlike(t testing.TB, what string, a, b api.Ability, g game) api.Result {
	t.Helper()
	x, why := g.run(a)
	y, other := g.run(b)
	if why != other || fmt.Sprint(x) != fmt.Sprint(y) {
		t.Fatalf("P15.2: %s\nfolded %v\nin %+v:\n%+v, %d, not\n%+v, %d", what, b, g, y, int(other), x, int(why))
	}
	return x
}

// wantFolded is what is folded, when all that the document says of it, but for what it means, has been seen to hold.
func wantFolded(t testing.TB, what string, a api.Ability) api.Ability {
	t.Helper()
	b, why := fold.Able(a)
	if why != api.OK {
		t.Fatalf("P15.2: %s: refused, %d", what, int(why))
	}
	if !check.Able(b) || b.On != a.On {
		t.Fatalf("P15.2: %s: it may not be, or wakes at %d: %v", what, b.On, b)
	}
	if len(b.Tree) > len(a.Tree) {
		t.Fatalf("P15.2: %s: %d nodes of %d", what, len(b.Tree), len(a.Tree))
	}
	for at := range b.Tree {
		l := b.Tree[at:tree.Behind(b.Tree, at)]
		if x, ok := accountOf(l); ok && x.n != nil && !x.writes(l) {
			t.Fatalf("P15.2: %s: %v is left at %d of %v", what, l, at, b.Tree)
		}
	}
	c, why := fold.Able(b)
	if why != api.OK || fmt.Sprint(c) != fmt.Sprint(b) {
		t.Fatalf("P15.2: %s: folded twice it is\n%v, %d, not\n%v", what, c, int(why), b)
	}
	return b
}

// same tells whether both abilities are the same, but for the nodes' places.
func same(a, b api.Ability) bool {
	return a.On == b.On && a.When == b.When && slices.Equal(a.Slots, b.Slots) && tree.Same(a.Tree, b.Tree)
}
