package check

import (
	"slices"
	"testing"

	"tableau/api"
	"tableau/tree"
)

// node is a tree: a node of that Op, Kind and N with these kids.
func node(op, kind int8, n int64, kids ...[]api.Node) []api.Node {
	l := []api.Node{{Op: op, Kind: kind, N: n, Kids: len(kids)}}
	for _, k := range kids {
		l = append(l, k...)
	}
	return l
}

func numNode(n int64) []api.Node { return node(api.TNum, kInt, n) }

// chain is an int of that height: 1 + (1 + (1 + ..)).
func chain(height int) []api.Node {
	l := slices.Repeat([]api.Node{{Op: api.TAdd, Kind: kInt, Kids: 2}, {Op: api.TNum, Kind: kInt, N: 1}}, height-1)
	return append(l, api.Node{Op: api.TNum, Kind: kInt})
}

// alone is the ability with this one statement.
func alone(statement []api.Node, slots ...int8) api.Ability {
	return api.Ability{Slots: append([]int8{kCard, kPlayer}, slots...), Tree: node(api.TBlock, 0, 0, statement)}
}

// heightOf is the document's height of the expression, or the effect, at that place; known are those of the places behind it.
func heightOf(l []api.Node, at int, known []int) int {
	n := l[at]
	kids := tree.Kids(l, at)
	switch {
	case n.Op == api.TNum || n.Op == api.TTrue || n.Op == api.TFalse || n.Op == api.TName:
		return 1
	case n.Op == api.TNot || n.Op == api.TNeg || n.Op == api.TField:
		return known[kids[0]]
	case n.Op == api.TAnd || n.Op == api.TOr:
		return max(known[kids[0]], known[kids[1]])
	case n.Op >= api.TOr && n.Op <= api.TRem:
		return max(known[kids[0]], 1+known[kids[1]])
	}
	high, i := 0, 0
	if n.Op == api.TCall {
		high = 1
	}
	for _, k := range kids {
		if l[k].Op != api.TWord && l[k].Op != api.TText {
			high = max(high, i+known[k])
			i++
		}
	}
	return high
}

// heightIn is the greatest height of all that is in the trees.
func heightIn(l []api.Node) int {
	known := make([]int, len(l))
	for at := len(l) - 1; at >= 0; at-- {
		if op := l[at].Op; op >= api.TNum && op <= api.TCall || op == api.TDo {
			known[at] = heightOf(l, at, known)
		}
	}
	return slices.Max(append(known, 0))
}

// wantHigh holds that the ability has something of that height, and may be just if that is at most 256.
func wantHigh(t *testing.T, what string, a api.Ability, high int) {
	t.Helper()
	if got := heightIn(a.Tree); got != high {
		t.Fatalf("%s: the height is %d, not %d", what, got, high)
	}
	if got := Able(a); got != (high <= api.MaxStack) {
		t.Errorf("P13.2: %s: with the height %d: %v", what, high, got)
	}
}

func TestHeightsOfExpressions(t *testing.T) {
	one, yes, self, me := numNode(1), node(api.TTrue, kBool, 0), node(api.TName, kCard, 0), node(api.TName, kPlayer, 1)
	for h := 252; h <= 260; h++ {
		c := chain(h)
		compare := node(api.TLt, kBool, 0, c, one)
		for _, x := range []struct {
			what string
			kind int8
			e    []api.Node
			high int
		}{
			{"a row to the right", kInt, c, h}, {"a sign", kInt, node(api.TNeg, kInt, 0, c), h}, {"a not", kBool, node(api.TNot, kBool, 0, compare), h}, {"signs", kInt, node(api.TNeg, kInt, 0, node(api.TNeg, kInt, 0, c)), h},
			{"at the right of a mark", kInt, node(api.TMul, kInt, 0, one, c), h + 1}, {"at the left of a mark", kInt, node(api.TSub, kInt, 0, c, one), h}, {"at the right of two marks", kInt, node(api.TDiv, kInt, 0, one, node(api.TRem, kInt, 0, one, c)), h + 2}, {"on both sides", kInt, node(api.TSub, kInt, 0, c, c), h + 1},
			{"compared", kBool, compare, h}, {"compared at the right", kBool, node(api.TEq, kBool, 0, one, c), h + 1}, {"compared at the right", kBool, node(api.TNe, kBool, 0, one, c), h + 1}, {"compared at the right", kBool, node(api.TGe, kBool, 0, one, c), h + 1},
			{"at the left of ||", kBool, node(api.TOr, kBool, 0, compare, yes), h}, {"at the right of ||", kBool, node(api.TOr, kBool, 0, yes, compare), h}, {"at the right of &&", kBool, node(api.TAnd, kBool, 0, yes, compare), h}, {"on both sides of &&", kBool, node(api.TAnd, kBool, 0, compare, compare), h}, {"compared bools", kBool, node(api.TEq, kBool, 0, yes, compare), h + 1},
			{"an argument", kInt, node(api.TCall, kInt, 6, c), h}, {"a first argument", kInt, node(api.TCall, kInt, 7, c, one), h}, {"a second argument", kInt, node(api.TCall, kInt, 8, one, c), h + 1}, {"both arguments", kInt, node(api.TCall, kInt, 7, c, c), h + 1}, {"an argument of an argument", kInt, node(api.TCall, kInt, 7, one, node(api.TCall, kInt, 2, c)), h + 1},
		} {
			wantHigh(t, "let, "+x.what, alone(append([]api.Node{{Op: api.TLet, N: 2, Kids: 1}}, x.e...), x.kind), x.high)
			if x.kind == kInt {
				wantHigh(t, "an effect, "+x.what, alone(node(api.TDo, 0, 3, self, x.e)), x.high+1)
				wantHigh(t, "an effect, "+x.what, alone(node(api.TDo, 0, 4, me, x.e)), x.high+1)
				continue
			}
			a := api.Ability{Slots: []int8{kCard, kPlayer}, When: true, Tree: append(slices.Clone(x.e), api.Node{Op: api.TBlock})}
			wantHigh(t, "a condition, "+x.what, a, x.high)
			wantHigh(t, "an if, "+x.what, alone(node(api.TIf, 0, 0, x.e, node(api.TBlock, 0, 0))), x.high)
		}
	}
}

// Whatever statement something high stands in, it is seen.
func TestHeightsWithinStatements(t *testing.T) {
	cards := node(api.TField, kList, 10, node(api.TField, kZone, 5, node(api.TName, kCard, 0)))
	yes, empty := node(api.TTrue, kBool, 0), node(api.TBlock, 0, 0)
	repeat := func(slot int64, block []api.Node) []api.Node {
		l := node(api.TRepeat, 0, 3, block)
		l[0].M = slot
		return l
	}
	each := func(slot int64, block []api.Node) []api.Node {
		l := node(api.TEach, 0, slot, cards, block)
		l[0].M = slot + 1
		return l
	}
	for h := 254; h <= 258; h++ {
		block := node(api.TBlock, 0, 0, node(api.TStop, 0, 0), node(api.TDo, 0, 6, node(api.TName, kCard, 0), chain(h-1)), node(api.TAbort, 0, 0))
		for _, x := range []struct {
			what      string
			statement []api.Node
			slots     []int8
		}{
			{"an if", node(api.TIf, 0, 0, yes, block), nil}, {"an else", node(api.TIf, 0, 0, yes, empty, block), nil}, {"an else if", node(api.TIf, 0, 0, yes, empty, node(api.TIf, 0, 0, yes, block)), nil},
			{"a repeat", repeat(2, block), []int8{kInt}}, {"an each", each(2, block), []int8{kCard, kList, kInt}}, {"a choose", node(api.TChoose, 0, 2, cards, block), []int8{kCard}}, {"a choose's else", node(api.TChoose, 0, 2, cards, empty, block), []int8{kCard}},
			{"a repeat in a repeat", repeat(2, node(api.TBlock, 0, 0, repeat(3, block))), []int8{kInt, kInt}},
		} {
			wantHigh(t, x.what, alone(x.statement, x.slots...), h)
		}
		wantHigh(t, "let and set", api.Ability{Slots: []int8{kCard, kPlayer, kInt}, Tree: node(api.TBlock, 0, 0, node(api.TLet, 0, 2, numNode(1)), node(api.TSet, 0, 2, chain(h)))}, h)
	}
}

// What is long, or deep, without being high.
func TestWhatIsNotHigh(t *testing.T) {
	const many = 900
	left := slices.Concat([]api.Node{{Op: api.TLet, N: 2, Kids: 1}}, slices.Repeat([]api.Node{{Op: api.TAdd, Kind: kInt, Kids: 2}}, many), slices.Repeat(numNode(1), many+1))
	wantHigh(t, "a row to the left", alone(left, kInt), 2)
	ands := slices.Concat(slices.Repeat([]api.Node{{Op: api.TAnd, Kind: kBool, Kids: 2}, {Op: api.TTrue, Kind: kBool}}, many), node(api.TFalse, kBool, 0), node(api.TBlock, 0, 0))
	wantHigh(t, "a row of && to the right", api.Ability{Slots: []int8{kCard, kPlayer}, When: true, Tree: ands}, 1)
	abs := slices.Concat([]api.Node{{Op: api.TLet, N: 2, Kids: 1}}, slices.Repeat([]api.Node{{Op: api.TCall, Kind: kInt, N: 6, Kids: 1}}, many), numNode(1))
	wantHigh(t, "calls within calls", alone(abs, kInt), 1)
	zones := slices.Concat([]api.Node{{Op: api.TLet, N: 2, Kids: 1}}, slices.Repeat([]api.Node{{Op: api.TField, Kind: kPlayer, N: 11, Kids: 1}, {Op: api.TCall, Kind: kZone, N: 1, Kids: 2}}, 200), node(api.TName, kPlayer, 1), slices.Repeat(node(api.TWord, 0, 3), 200))
	wantHigh(t, "words", alone(zones, kPlayer), 1)
	is := node(api.TCall, kBool, 5, node(api.TName, kCard, 0), []api.Node{{Op: api.TText, Text: "x"}})
	has := node(api.TCall, kBool, 4, node(api.TField, kList, 10, node(api.TField, kZone, 5, node(api.TName, kCard, 0))), node(api.TName, kCard, 0))
	wantHigh(t, "a text", alone(node(api.TIf, 0, 0, is, node(api.TBlock, 0, 0))), 1)
	wantHigh(t, "two values", alone(node(api.TIf, 0, 0, has, node(api.TBlock, 0, 0))), 2)
	wantHigh(t, "nothing", api.Ability{Slots: []int8{kCard, kPlayer}, Tree: node(api.TBlock, 0, 0)}, 0)
}

// No tree that tree.Check takes is higher than MaxStack: here is one that is as high as may be, or nearly so.
func TestHighSources(t *testing.T) {
	expr := "1"
	for range 64 {
		expr = "1 + 1 * min(1, " + expr + ")"
	}
	a := ability(t, when("1 < "+expr))
	if got := heightIn(a.Tree); got != 194 || got > api.MaxStack {
		t.Errorf("a high condition: %d", got)
	}
	expr = "1"
	for range 62 {
		expr = "1 + 1 * min(1, " + expr + ")"
	}
	a = ability(t, in("hit(self, "+expr+");"))
	if got := heightIn(a.Tree); got != 188 {
		t.Errorf("a high effect: %d", got)
	}
}
