package check

import (
	"slices"
	"strings"

	"tableau/api"
	"tableau/tree"
)

// An own account of what the document says, of trees as they are drawn: names and slots in lists that are handed on, the first fault as a panic.

// refusal: the first thing that is not so.
type refusal struct {
	why api.Errno
	at  int
}

// binding: a variable as it is seen.
type binding struct {
	name string
	slot int64
	kind int8
	let  bool
}

// account: goes through a list of nodes, and writes down what comes out.
type account struct {
	in, out []api.Node
	slots   []int8
}

func refuse(not bool, why api.Errno, n api.Node) {
	if not {
		panic(refusal{why, n.At})
	}
}

// refused is the refusal that was recovered, if one was; any other panic goes on.
func refused(x any) *refusal {
	if x == nil {
		return nil
	}
	r, ok := x.(refusal)
	if !ok {
		panic(x)
	}
	return &r
}

// packed is what check.Pack is to answer of a tree that may be.
func packed(l []api.Node) (d []api.Design, why api.Errno, at int) {
	defer func() {
		if r := refused(recover()); r != nil {
			d, why, at = nil, r.why, r.at
		}
	}()
	names := []string{}
	for i, card := range tree.Kids(l, 0) {
		refuse(i >= 256, api.ErrSize, l[card])
		refuse(slices.Contains(names, l[card].Text), api.ErrTwice, l[card])
		names = append(names, l[card].Text)
		d = append(d, drawn(l, card))
	}
	ints, texts := pools(l)
	refuse(ints > 4096 || texts > 4096, api.ErrSize, api.Node{})
	return d, api.OK, 0
}

// pools is how many ints and texts the list has, by sorting.
func pools(l []api.Node) (int, int) {
	var ints []int64
	var texts []string
	for _, n := range l {
		switch n.Op {
		case api.TNum:
			ints = append(ints, n.N)
		case api.TRepeat:
			ints = append(ints, n.N, 0, 1)
		case api.TEach:
			ints = append(ints, 0, 1)
		case api.TCard, api.TTag, api.TText:
			texts = append(texts, n.Text)
		}
	}
	slices.Sort(ints)
	slices.Sort(texts)
	return len(slices.Compact(ints)), len(slices.Compact(texts))
}

// drawn is the design of the card at that place.
func drawn(l []api.Node, card int) api.Design {
	d := api.Design{Name: l[card].Text}
	var ahead []api.Node
	count := func(op int8) (many int) {
		for _, n := range ahead {
			if n.Op == op {
				many++
			}
		}
		return many
	}
	for _, at := range tree.Kids(l, card) {
		n := l[at]
		switch n.Op {
		case api.TTag:
			refuse(slices.ContainsFunc(ahead, func(x api.Node) bool { return x.Op == n.Op && x.Text == n.Text }), api.ErrTwice, n)
			refuse(count(n.Op) >= 16, api.ErrSize, n)
			d.Tags = append(d.Tags, n.Text)
		case api.TOn:
			nodes := tree.Behind(l, at) - at - 1
			refuse(count(n.Op) >= 8 || nodes > 2000, api.ErrSize, n)
			d.Able = append(d.Able, (&account{in: l[at+1 : at+1+nodes]}).ability(n))
		default:
			refuse(count(n.Op) > 0, api.ErrTwice, n)
			refuse(n.N > 1000000000, api.ErrSize, n)
			*map[int8]*int64{api.TCost: &d.Cost, api.TPower: &d.Power, api.THealth: &d.Health}[n.Op] = n.N
		}
		ahead = append(ahead, n)
	}
	return d
}

func (a *account) ability(on api.Node) api.Ability {
	a.out = slices.Clone(a.in)
	for i := range a.out {
		if a.out[i].Op != api.TText {
			a.out[i].Text = ""
		}
	}
	a.slots = []int8{kCard, kPlayer}
	seen := []binding{{"self", 0, kCard, false}, {"me", 1, kPlayer, false}}
	block := 0
	if on.Kids == 2 {
		a.want(0, kBool, seen)
		block = tree.Behind(a.in, 0)
	}
	a.block(block, seen)
	return api.Ability{On: int(on.N), Slots: a.slots, When: on.Kids == 2, Tree: a.out}
}

func (a *account) block(at int, seen []binding) {
	for _, k := range tree.Kids(a.in, at) {
		seen = a.statement(k, seen)
	}
}

// bound is what is seen with the node's variable, which takes slots of these kinds.
func (a *account) bound(at int, seen []binding, let bool, kinds ...int8) []binding {
	n := a.in[at]
	refuse(lookup(seen, n.Text) != nil, api.ErrName, n)
	refuse(32-len(a.slots) < len(kinds), api.ErrSize, n)
	b := binding{n.Text, int64(len(a.slots)), kinds[0], let}
	a.slots = append(a.slots, kinds...)
	return append(slices.Clone(seen), b)
}

func lookup(seen []binding, name string) *binding {
	for i := range seen {
		if seen[i].name == name {
			return &seen[i]
		}
	}
	return nil
}

// statement is what is seen behind it.
func (a *account) statement(at int, seen []binding) []binding {
	n, kids, out := a.in[at], tree.Kids(a.in, at), &a.out[at]
	slot := int64(0)
	switch n.Op {
	case api.TLet:
		kind := a.expr(kids[0], seen)
		slot = int64(len(a.slots))
		seen = a.bound(at, seen, true, kind)
		out.N = slot
	case api.TSet:
		refuse(n.Text == "self" || n.Text == "me", api.ErrSet, n)
		v := lookup(seen, n.Text)
		refuse(v == nil, api.ErrName, n)
		refuse(!v.let, api.ErrSet, n)
		a.want(kids[0], v.kind, seen)
		out.N = v.slot
	case api.TIf:
		a.want(kids[0], kBool, seen)
		a.block(kids[1], seen)
		if len(kids) == 3 && a.in[kids[2]].Op == api.TIf {
			a.statement(kids[2], seen)
		} else if len(kids) == 3 {
			a.block(kids[2], seen)
		}
	case api.TRepeat:
		refuse(n.N > 255, api.ErrSize, n)
		out.M = int64(len(a.slots))
		a.block(kids[0], a.bound(at, seen, false, kInt))
	case api.TEach:
		a.want(kids[0], kList, seen)
		out.N, out.M = int64(len(a.slots)), int64(len(a.slots))+1
		a.block(kids[1], a.bound(at, seen, false, kCard, kList, kInt))
	case api.TChoose:
		a.want(kids[0], kList, seen)
		out.N = int64(len(a.slots))
		a.block(kids[1], a.bound(at, seen, false, kCard))
		if len(kids) == 3 {
			a.block(kids[2], seen)
		}
	case api.TDo:
		a.call(at, doTable, seen)
	}
	return seen
}

func (a *account) want(at int, kind int8, seen []binding) {
	refuse(a.expr(at, seen) != kind, api.ErrType, a.in[at])
}

// expr is the kind of the expression.
func (a *account) expr(at int, seen []binding) (kind int8) {
	n, kids, out := a.in[at], tree.Kids(a.in, at), &a.out[at]
	defer func() { out.Kind = kind }()
	all := func(k int8) {
		for _, x := range kids {
			a.want(x, k, seen)
		}
	}
	switch {
	case n.Op == api.TNum:
		return kInt
	case n.Op == api.TTrue || n.Op == api.TFalse:
		return kBool
	case n.Op == api.TName:
		v := lookup(seen, n.Text)
		refuse(v == nil, api.ErrName, n)
		out.N = v.slot
		return v.kind
	case n.Op == api.TNot || n.Op == api.TOr || n.Op == api.TAnd:
		all(kBool)
		return kBool
	case n.Op == api.TNeg || n.Op >= api.TAdd && n.Op <= api.TRem:
		all(kInt)
		return kInt
	case n.Op >= api.TLt && n.Op <= api.TGe:
		all(kInt)
		return kBool
	case n.Op == api.TEq || n.Op == api.TNe:
		left := a.expr(kids[0], seen)
		refuse(left == kList, api.ErrType, a.in[kids[0]])
		a.want(kids[1], left, seen)
		return kBool
	case n.Op == api.TField:
		of := a.expr(kids[0], seen)
		number, f := found(fieldTable, n.Text)
		refuse(f == nil, api.ErrCall, n)
		refuse(of != kindOf(f.takes), api.ErrType, a.in[kids[0]])
		out.N = number
		return f.tells
	}
	return a.call(at, funcTable, seen)
}

func found(table, name string) (int64, *entry) {
	for i, e := range entries(table) {
		if e.name == name {
			return int64(i), &e
		}
	}
	return 0, nil
}

func (a *account) call(at int, table string, seen []binding) int8 {
	n, kids := a.in[at], tree.Kids(a.in, at)
	number, f := found(table, n.Text)
	refuse(f == nil, api.ErrCall, n)
	refuse(len(kids) != len(f.takes), api.ErrArgs, n)
	for i, k := range kids {
		x := a.in[k]
		switch takes := f.takes[i : i+1]; takes {
		case "w":
			refuse(x.Op != api.TWord, api.ErrType, x)
		case "t":
			refuse(x.Op != api.TText, api.ErrType, x)
		default:
			refuse(x.Op == api.TWord || x.Op == api.TText, api.ErrType, x)
			a.want(k, kindOf(takes), seen)
		}
	}
	a.out[at].N = number
	return f.tells
}

// And an own account of which abilities may be: no names are made, the slots are looked at.

// mayBe is what check.Able is to answer.
func mayBe(a api.Ability) (may bool) {
	defer func() {
		if refused(recover()) != nil {
			may = false
		}
	}()
	g := &judge{Ability: a}
	g.must(a.On >= 0 && a.On <= 4 && len(a.Tree) <= 2000)
	block := 0
	if a.When {
		block = tree.Behind(a.Tree, 0)
		g.must(block >= 0 && block < len(a.Tree))
	}
	g.must(tree.Behind(a.Tree, block) == len(a.Tree))
	g.given = []int8{kCard, kPlayer}
	g.seen = map[int64]bool{0: false, 1: false}
	if a.When {
		g.must(g.expr(0) == kBool)
	}
	g.block(block)
	g.must(slices.Equal(g.given, a.Slots) && len(a.Slots) <= 32 && heightIn(a.Tree) <= 256)
	return true
}

// judge: seen is the slots of the variables that are seen, and whether a let declared them.
type judge struct {
	api.Ability
	given []int8
	seen  map[int64]bool
}

func (g *judge) must(is bool) {
	refuse(!is, api.ErrArg, api.Node{})
}

// plain holds what holds for the fields that the kind of node does not name.
func (g *judge) plain(at int, kind int8, usesN, usesM, usesText bool) (api.Node, []int) {
	n := g.Tree[at]
	g.must(n.Kind == kind && n.At >= 0 && (usesN || n.N == 0) && (usesM || n.M == 0) && (usesText || n.Text == ""))
	return n, tree.Kids(g.Tree, at)
}

func (g *judge) block(at int) {
	n, kids := g.plain(at, 0, false, false, false)
	g.must(n.Op == api.TBlock)
	around := map[int64]bool{}
	for k, v := range g.seen {
		around[k] = v
	}
	for _, k := range kids {
		g.statement(k)
	}
	g.seen = around
}

// round is a block in which another slot is seen.
func (g *judge) round(block int, slot int64, kinds ...int8) {
	g.declare(slot, false, kinds...)
	g.block(block)
	delete(g.seen, slot)
}

func (g *judge) declare(slot int64, let bool, kinds ...int8) {
	g.must(slot == int64(len(g.given)))
	g.given = append(g.given, kinds...)
	g.seen[slot] = let
}

func (g *judge) statement(at int) {
	op := g.Tree[at].Op
	n, kids := g.plain(at, 0, op != api.TIf && op != api.TStop && op != api.TAbort, op == api.TRepeat || op == api.TEach, false)
	many := func(least, most int) { g.must(len(kids) >= least && len(kids) <= most) }
	switch op {
	case api.TLet:
		many(1, 1)
		g.declare(n.N, true, g.expr(kids[0]))
	case api.TSet:
		many(1, 1)
		g.must(g.seen[n.N] && g.expr(kids[0]) == g.given[n.N])
	case api.TIf:
		many(2, 3)
		g.must(g.expr(kids[0]) == kBool)
		g.block(kids[1])
		if len(kids) == 3 && g.Tree[kids[2]].Op == api.TIf {
			g.statement(kids[2])
		} else if len(kids) == 3 {
			g.block(kids[2])
		}
	case api.TRepeat:
		many(1, 1)
		g.must(n.N >= 0 && n.N <= 255)
		g.round(kids[0], n.M, kInt)
	case api.TEach:
		many(2, 2)
		g.must(g.expr(kids[0]) == kList && n.M == n.N+1)
		g.round(kids[1], n.N, kCard, kList, kInt)
	case api.TChoose:
		many(2, 3)
		g.must(g.expr(kids[0]) == kList)
		g.round(kids[1], n.N, kCard)
		if len(kids) == 3 {
			g.block(kids[2])
		}
	case api.TStop, api.TAbort:
		many(0, 0)
	default:
		g.must(op == api.TDo)
		g.call(doTable, n, kids)
	}
}

func (g *judge) expr(at int) int8 {
	op := g.Tree[at].Op
	n, kids := g.plain(at, g.Tree[at].Kind, op == api.TNum || op == api.TName || op == api.TField || op == api.TCall, false, false)
	all := func(kind, tells int8, many int) int8 {
		g.must(len(kids) == many)
		for _, k := range kids {
			g.must(g.expr(k) == kind)
		}
		return tells
	}
	kind := int8(0)
	switch {
	case op == api.TNum:
		g.must(n.N >= 0)
		kind = all(0, kInt, 0)
	case op == api.TTrue || op == api.TFalse:
		kind = all(0, kBool, 0)
	case op == api.TName:
		_, ok := g.seen[n.N]
		g.must(ok)
		kind = all(0, g.given[n.N], 0)
	case op == api.TNot:
		kind = all(kBool, kBool, 1)
	case op == api.TNeg:
		kind = all(kInt, kInt, 1)
	case op == api.TOr || op == api.TAnd:
		kind = all(kBool, kBool, 2)
	case op == api.TEq || op == api.TNe:
		g.must(len(kids) == 2)
		left := g.Tree[kids[0]].Kind
		g.must(left != kList)
		kind = all(left, kBool, 2)
	case op >= api.TLt && op <= api.TGe:
		kind = all(kInt, kBool, 2)
	case op >= api.TAdd && op <= api.TRem:
		kind = all(kInt, kInt, 2)
	case op == api.TField:
		kind = g.call(fieldTable, n, kids)
	default:
		g.must(op == api.TCall)
		kind = g.call(funcTable, n, kids)
	}
	g.must(n.Kind == kind)
	return kind
}

func (g *judge) call(table string, n api.Node, kids []int) int8 {
	list := entries(table)
	g.must(n.N >= 0 && n.N < int64(len(list)))
	e := list[n.N]
	g.must(len(kids) == len(e.takes))
	for i, k := range kids {
		switch takes := e.takes[i : i+1]; takes {
		case "w":
			x, none := g.plain(k, 0, true, false, false)
			g.must(x.Op == api.TWord && x.N >= 0 && x.N <= 3 && len(none) == 0)
		case "t":
			x, none := g.plain(k, 0, false, false, true)
			g.must(x.Op == api.TText && len(none) == 0 && len(x.Text) <= 64)
			g.must(strings.IndexFunc(x.Text, func(r rune) bool { return r < 32 || r > 126 }) < 0)
		default:
			g.must(g.expr(k) == kindOf(takes))
		}
	}
	return e.tells
}
