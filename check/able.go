package check

import (
	"slices"
	"strconv"

	"tableau/api"
	"tableau/kinds"
	"tableau/tree"
)

// Able tells whether the ability may be. It is given names again, and must be what comes of them.
func Able(a api.Ability) bool {
	t := named(a)
	// How deep it is doesn't matter; a tree that is too deep is one, too.
	if why, _ := tree.Check(t); why == api.ErrTree {
		return false
	}
	l, err := newChecker(t).whole()
	if err != nil {
		return false
	}
	made := l[0].Able[0]
	return slices.Equal(made.Tree, a.Tree) && slices.Equal(made.Slots, a.Slots) && highest(a.Tree) <= api.MaxStack
}

// named is a pack whose one card has this ability, with names in the place of numbers.
func named(a api.Ability) []api.Node {
	fields, funcs, effects := kinds.Fields(), kinds.Funcs(), kinds.Effects()
	on := api.Node{Op: api.TOn, N: int64(a.On), Kids: 1}
	if a.When {
		on.Kids = 2
	}
	l := []api.Node{{Op: api.TPack, Kids: 1}, {Op: api.TCard, Kids: 1}, on}
	for _, n := range a.Tree {
		x := api.Node{Op: n.Op, At: n.At, Kids: n.Kids}
		switch n.Op {
		case api.TLet, api.TSet, api.TEach, api.TChoose, api.TName:
			x.Text = slotName(n.N)
		case api.TRepeat:
			x.N, x.Text = n.N, slotName(n.M)
		case api.TNum, api.TWord:
			x.N = n.N
		case api.TField:
			x.Text = signName(fields, n.N)
		case api.TCall:
			x.Text = signName(funcs, n.N)
		case api.TDo:
			x.Text = signName(effects, n.N)
		case api.TText:
			x.Text = n.Text
		}
		l = append(l, x)
	}
	return l
}

// slotName is another name for each slot; one that no variable can have is no name, or is never declared in that slot.
func slotName(slot int64) string {
	switch slot {
	case 0:
		return "self"
	case 1:
		return "me"
	}
	return "slot" + strconv.FormatInt(slot, 10)
}

// signName is the sign's name; nothing, which is no name, for a number that is none.
func signName(l []kinds.Sign, number int64) string {
	if number < 0 || number >= int64(len(l)) {
		return ""
	}
	return l[number].Name
}

// highest is the height of the highest expression, or effect, of the trees.
func highest(l []api.Node) int {
	m := measure{list: l}
	for m.at < len(l) {
		m.next()
	}
	return m.most
}

// measure: goes through trees that may be, and keeps the greatest height.
type measure struct {
	list []api.Node
	at   int // the node that comes next
	most int
}

// next is the height of the tree that comes next; 0, if it leaves no value.
func (m *measure) next() int {
	n := m.list[m.at]
	m.at++
	value := api.TNum <= n.Op && n.Op <= api.TCall
	high, below := 0, 0
	if value {
		high = 1
	}
	for range n.Kids {
		kid := m.next()
		high = max(high, below+kid)
		// The first operand of || and && is gone when the second one is come to.
		if kid > 0 && n.Op != api.TOr && n.Op != api.TAnd {
			below++
		}
	}
	m.most = max(m.most, high)
	if !value {
		return 0
	}
	return high
}
