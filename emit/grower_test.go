package emit_test

import (
	"fmt"
	"math/rand"
	"slices"
	"sync"

	"tableau/api"
	"tableau/kinds"
)

// grower: makes abilities by chance, all of which may be.
type grower struct {
	*rand.Rand
	slots []int8
	seen  []variable
	sap   int // so many statements are still made
	deep  int // so deep expressions still may be
}

type variable struct {
	slot int64
	kind int8
	open bool // it may be assigned
}

// making: a kind of node: of which kinds its kids are, of which one it is itself.
type making struct {
	op    int8
	n     int64
	takes []int8
	tells int8
}

// makings are all nodes that tell a value of their kids' ones, and with them the effects, which tell nothing.
var makings = sync.OnceValue(func() []making {
	one, two := []int8{api.KBool}, []int8{api.KInt, api.KInt}
	l := []making{{api.TNot, 0, one, api.KBool}, {api.TNeg, 0, two[:1], api.KInt}}
	for op := api.TOr; op <= api.TAnd; op++ {
		l = append(l, making{op, 0, []int8{api.KBool, api.KBool}, api.KBool})
	}
	for op := api.TEq; op <= api.TNe; op++ {
		for kind := api.KInt; kind <= api.KZone; kind++ {
			l = append(l, making{op, 0, []int8{kind, kind}, api.KBool})
		}
	}
	for op := api.TLt; op <= api.TGe; op++ {
		l = append(l, making{op, 0, two, api.KBool})
	}
	for op := api.TAdd; op <= api.TRem; op++ {
		l = append(l, making{op, 0, two, api.KInt})
	}
	for op, signs := range map[int8][]kinds.Sign{api.TField: kinds.Fields(), api.TCall: kinds.Funcs(), api.TDo: kinds.Effects()} {
		for n, s := range signs {
			l = append(l, making{op, int64(n), s.Args, s.Tell})
		}
	}
	// The signs came out of a map.
	slices.SortStableFunc(l, func(a, b making) int { return int(a.op) - int(b.op) })
	return l
})

var texts = []string{"", "beast", "x y", "~", "a"}

// grown is an ability.
func grown(r *rand.Rand) api.Ability {
	g := &grower{Rand: r, slots: []int8{api.KCard, api.KPlayer}, sap: 1 + r.Intn(30)}
	g.seen = []variable{{0, api.KCard, false}, {1, api.KPlayer, false}}
	a := api.Ability{On: r.Intn(5), When: r.Intn(3) == 0}
	if a.When {
		a.Tree = g.whole(api.KBool)
	}
	a.Tree = append(a.Tree, g.block()...)
	a.Slots = g.slots
	return a
}

func (g *grower) node(n api.Node, kids ...[]api.Node) []api.Node {
	n.At = g.Intn(1 << 16)
	return op(n, kids...)
}

// expr is an expression of that kind, or what stands as such an argument.
func (g *grower) expr(kind int8) []api.Node {
	switch kind {
	case -1:
		return g.node(api.Node{Op: api.TWord, N: g.Int63n(4)})
	case -2:
		return g.node(api.Node{Op: api.TText, Text: texts[g.Intn(len(texts))]})
	}
	g.deep--
	defer func() { g.deep++ }()
	var l []variable
	for _, v := range g.seen {
		if v.kind == kind {
			l = append(l, v)
		}
	}
	if len(l) > 0 && (g.deep < 0 || g.Intn(4) == 0) {
		return g.node(api.Node{Op: api.TName, Kind: kind, N: l[g.Intn(len(l))].slot})
	}
	if kind == api.KInt && (g.deep < 0 || g.Intn(4) == 0) {
		return g.node(api.Node{Op: api.TNum, Kind: kind, N: g.Int63() >> g.Intn(63)})
	}
	if kind == api.KBool && (g.deep < 0 || g.Intn(6) == 0) {
		return g.node(api.Node{Op: api.TTrue + int8(g.Intn(2)), Kind: kind})
	}
	return g.made(func(m making) bool { return m.tells == kind })
}

// whole is an expression that stands by itself.
func (g *grower) whole(kind int8) []api.Node {
	g.deep = 3
	return g.expr(kind)
}

// made is a node of those that fit, with its kids.
func (g *grower) made(fits func(m making) bool) []api.Node {
	var l []making
	for _, m := range makings() {
		if fits(m) {
			l = append(l, m)
		}
	}
	m := l[g.Intn(len(l))]
	var kids [][]api.Node
	for _, kind := range m.takes {
		kids = append(kids, g.expr(kind))
	}
	return g.node(api.Node{Op: m.op, Kind: m.tells, N: m.n}, kids...)
}

func (g *grower) block() []api.Node {
	around := slices.Clone(g.seen)
	var l [][]api.Node
	for range g.Intn(6) {
		if g.sap--; g.sap >= 0 {
			l = append(l, g.statement())
		}
	}
	g.seen = around
	return g.node(api.Node{Op: api.TBlock}, l...)
}

// declare is a variable with so many slots behind its own that have no name.
func (g *grower) declare(kind int8, open bool, behind ...int8) int64 {
	slot := int64(len(g.slots))
	g.slots = append(append(g.slots, kind), behind...)
	g.seen = append(g.seen, variable{slot, kind, open})
	return slot
}

func (g *grower) statement() []api.Node {
	around := slices.Clone(g.seen)
	if way := g.Intn(9); way < 4 && len(g.slots)+3 <= api.MaxSlots {
		if way == 0 {
			kind := int8(1 + g.Intn(6))
			e := g.whole(kind)
			return g.node(api.Node{Op: api.TLet, N: g.declare(kind, true)}, e)
		}
		defer func() { g.seen = around }()
		return g.loop(way)
	}
	switch g.Intn(5) {
	case 0:
		if v := g.seen[g.Intn(len(g.seen))]; v.open {
			return g.node(api.Node{Op: api.TSet, N: v.slot}, g.whole(v.kind))
		}
		return g.node(api.Node{Op: api.TStop + int8(g.Intn(2))})
	case 1, 2:
		return g.ifs()
	}
	g.deep = 3
	return g.made(func(m making) bool { return m.op == api.TDo })
}

func (g *grower) loop(way int) []api.Node {
	if way == 1 {
		n := api.Node{Op: api.TRepeat, N: []int64{0, 1, 2, 3, 255}[g.Intn(5)], M: g.declare(api.KInt, false)}
		return g.node(n, g.block())
	}
	kids := [][]api.Node{g.whole(api.KList)}
	around := slices.Clone(g.seen)
	if way == 2 {
		slot := g.declare(api.KCard, false, api.KList, api.KInt)
		return g.node(api.Node{Op: api.TEach, N: slot, M: slot + 1}, kids[0], g.block())
	}
	n := api.Node{Op: api.TChoose, N: g.declare(api.KCard, false)}
	kids = append(kids, g.block())
	g.seen = around
	if g.Intn(2) == 0 {
		kids = append(kids, g.block())
	}
	return g.node(n, kids...)
}

func (g *grower) ifs() []api.Node {
	kids := [][]api.Node{g.whole(api.KBool), g.block()}
	switch g.Intn(3) {
	case 0:
		kids = append(kids, g.block())
	case 1:
		kids = append(kids, g.ifs())
	}
	return g.node(api.Node{Op: api.TIf}, kids...)
}

// grownDesigns are some that may be.
func grownDesigns(r *rand.Rand) []api.Design {
	var l []api.Design
	for i := range r.Intn(5) {
		d := api.Design{Name: []string{"Fox", "beast", "", fmt.Sprint("n", i)}[r.Intn(4)], Cost: r.Int63n(9), Power: r.Int63n(api.MaxStat + 1), Health: r.Int63n(9)}
		for _, i := range r.Perm(len(texts))[:r.Intn(len(texts)+1)] {
			d.Tags = append(d.Tags, texts[i])
		}
		for range r.Intn(4) {
			d.Able = append(d.Able, grown(r))
		}
		l = append(l, d)
	}
	return l
}

// bent is the ability with one thing of it changed; it may still be one, or not.
func bent(r *rand.Rand, a api.Ability) api.Ability {
	a.Slots, a.Tree = slices.Clone(a.Slots), slices.Clone(a.Tree)
	n := &a.Tree[r.Intn(len(a.Tree))]
	near := int64(r.Intn(7) - 1)
	switch r.Intn(13) {
	case 0:
		n.Op += int8(near) - 2
	case 1:
		n.Op = int8(r.Intn(256) - 128)
	case 2:
		n.Kind = int8(near)
	case 3:
		n.N += near - 2
	case 4:
		n.N = []int64{least, most, 255, 256, 32}[r.Intn(5)]
	case 5:
		n.M += near - 2
	case 6:
		n.Kids += int(near) - 2
	case 7:
		n.At = int(near)
	case 8:
		n.Text += []string{"x", "\n", "\xff"}[r.Intn(3)]
	case 9:
		a.On = int(near)
	case 10:
		a.When = !a.When
	case 11:
		a.Slots[r.Intn(len(a.Slots))] = int8(near)
	case 12:
		a.Tree = a.Tree[:r.Intn(len(a.Tree)+1)]
	}
	return a
}
