package fold_test

import (
	"fmt"
	"math/rand"
	"slices"
	"testing"

	"tableau/api"
	"tableau/check"
	"tableau/mean"
	"tableau/state"
)

// grower: makes abilities by chance, all of which may be, with much in them that is known ahead.
type grower struct {
	*rand.Rand
	slots []int8 // the kinds of those that are declared
	seen  []name
	sap   int // so many statements are still made
	loops int // so many stand around
}

// name: a variable that is seen; open, if it may be assigned.
type name struct {
	slot int64
	kind int8
	open bool
}

// grown is an ability.
func grown(r *rand.Rand) api.Ability {
	g := &grower{Rand: r, slots: []int8{api.KCard, api.KPlayer}, sap: 1 + r.Intn(30)}
	g.seen = []name{{0, api.KCard, false}, {1, api.KPlayer, false}}
	a := api.Ability{On: r.Intn(5), When: r.Intn(3) == 0}
	if a.When {
		a.Tree = g.expr(api.KBool, 3)
	}
	a.Tree = append(a.Tree, g.block()...)
	a.Slots = g.slots
	return a
}

// node is a node and its kids, at any place.
func (g *grower) node(n api.Node, kids ...[]api.Node) []api.Node {
	n.At = g.Intn(1 << 16)
	return op(n, kids...)
}

func (g *grower) block() []api.Node {
	around := slices.Clone(g.seen)
	var l [][]api.Node
	for range g.Intn(5) {
		if g.sap--; g.sap >= 0 {
			l = append(l, g.statement())
		}
	}
	g.seen = around
	return g.node(api.Node{Op: api.TBlock}, l...)
}

// declare is a variable with so many slots behind its own that have no name.
func (g *grower) declare(kind int8, open bool, behind ...int8) int64 {
	slot := int64(len(g.slots))
	g.slots = append(append(g.slots, kind), behind...)
	g.seen = append(g.seen, name{slot, kind, open})
	return slot
}

func (g *grower) statement() []api.Node {
	// All loops and lets are given up where there is no room for an each.
	few := len(g.slots)+3 > api.MaxSlots
	switch n := g.Intn(16); {
	case n < 3 && !few:
		kind := int8(1 + g.Intn(6))
		e := g.expr(kind, 3)
		return g.node(api.Node{Op: api.TLet, N: g.declare(kind, true)}, e)
	case n < 5:
		if v := g.seen[g.Intn(len(g.seen))]; v.open {
			return g.node(api.Node{Op: api.TSet, N: v.slot}, g.expr(v.kind, 3))
		}
	case n < 8:
		return g.ifs()
	case n < 11 && !few && g.loops < 3:
		return g.loop()
	case n == 11 && g.Intn(3) == 0:
		return g.node(api.Node{Op: []int8{api.TStop, api.TAbort}[g.Intn(2)]})
	}
	return g.effect()
}

func (g *grower) ifs() []api.Node {
	kids := [][]api.Node{g.expr(api.KBool, 3), g.block()}
	switch g.Intn(3) {
	case 0:
		kids = append(kids, g.block())
	case 1:
		kids = append(kids, g.ifs())
	}
	return g.node(api.Node{Op: api.TIf}, kids...)
}

func (g *grower) loop() []api.Node {
	around := slices.Clone(g.seen)
	g.loops++
	defer func() { g.loops-- }()
	defer func() { g.seen = around }()
	switch g.Intn(3) {
	case 0:
		n := api.Node{Op: api.TRepeat, N: []int64{0, 0, 1, 2, 3}[g.Intn(5)], M: g.declare(api.KInt, false)}
		return g.node(n, g.block())
	case 1:
		list := g.expr(api.KList, 2)
		slot := g.declare(api.KCard, false, api.KList, api.KInt)
		return g.node(api.Node{Op: api.TEach, N: slot, M: slot + 1}, list, g.block())
	}
	kids := [][]api.Node{g.expr(api.KList, 2)}
	n := api.Node{Op: api.TChoose, N: g.declare(api.KCard, false)}
	kids = append(kids, g.block())
	g.seen = around
	if g.Intn(2) == 0 {
		kids = append(kids, g.block())
	}
	return g.node(n, kids...)
}

func (g *grower) effect() []api.Node {
	takes := [][]int8{{api.KCard, api.KZone}, {api.KCard, api.KZone}, {api.KPlayer}, {api.KCard, api.KInt}, {api.KPlayer, api.KInt}, {api.KPlayer, api.KInt}, {api.KCard, api.KInt}, {api.KCard, api.KInt}, {api.KZone}}
	n := g.Intn(len(takes))
	return g.node(api.Node{Op: api.TDo, N: int64(n)}, g.several(2, takes[n]...)...)
}

func (g *grower) several(deep int, kinds ...int8) [][]api.Node {
	var l [][]api.Node
	for _, kind := range kinds {
		l = append(l, g.expr(kind, deep))
	}
	return l
}

// expr is an expression of that kind.
func (g *grower) expr(kind int8, deep int) []api.Node {
	of := func(o int8, n int64, kinds ...int8) []api.Node {
		return g.node(api.Node{Op: o, Kind: kind, N: n}, g.several(deep-1, kinds...)...)
	}
	if v, ok := g.named(kind); ok && (deep <= 0 || g.Intn(4) == 0) {
		return of(api.TName, v.slot)
	}
	switch kind {
	case api.KInt:
		return g.number(of, deep)
	case api.KBool:
		return g.boolean(of, deep)
	case api.KCard:
		return of(api.TCall, 3, api.KZone) // top
	case api.KPlayer:
		return [][]api.Node{of(api.TCall, 0, api.KPlayer), of(api.TField, 4, api.KCard)}[g.Intn(2)]
	case api.KZone:
		if deep > 0 && g.Intn(3) == 0 {
			return g.node(api.Node{Op: api.TCall, Kind: kind, N: 1}, g.expr(api.KPlayer, deep-1), g.node(api.Node{Op: api.TWord, N: g.Int63n(4)}))
		}
		return of(api.TField, 5, api.KCard)
	}
	return of(api.TField, 10, api.KZone)
}

// named is a variable of that kind.
func (g *grower) named(kind int8) (name, bool) {
	var l []name
	for _, v := range g.seen {
		if v.kind == kind {
			l = append(l, v)
		}
	}
	if len(l) == 0 {
		return name{}, false
	}
	return l[g.Intn(len(l))], true
}

// making is what makes a node of the kind that is asked for, with kids of these kinds.
type making func(o int8, n int64, kinds ...int8) []api.Node

func (g *grower) number(of making, deep int) []api.Node {
	if deep <= 0 || g.Intn(4) == 0 {
		return of(api.TNum, []int64{0, 1, 2, 3, g.Int63n(10), most, most - 1, g.Int63() >> g.Intn(63)}[g.Intn(8)])
	}
	switch n := g.Intn(16); {
	case n < 2:
		return of(api.TNeg, 0, api.KInt)
	case n < 8:
		return of(api.TAdd+int8(g.Intn(5)), 0, api.KInt, api.KInt)
	case n < 9:
		return of(api.TCall, 6, api.KInt)
	case n < 11:
		return of(api.TCall, 7+g.Int63n(2), api.KInt, api.KInt)
	case n < 12:
		return of(api.TCall, 2, api.KInt)
	case n < 14:
		return of(api.TField, g.Int63n(4), api.KCard)
	case n < 15:
		return of(api.TField, 6+g.Int63n(2), api.KPlayer)
	}
	return of(api.TField, 9, api.KZone)
}

func (g *grower) boolean(of making, deep int) []api.Node {
	if deep <= 0 || g.Intn(6) == 0 {
		return of([]int8{api.TTrue, api.TFalse}[g.Intn(2)], 0)
	}
	switch n := g.Intn(12); {
	case n < 1:
		return of(api.TNot, 0, api.KBool)
	case n < 5:
		return of([]int8{api.TOr, api.TAnd}[g.Intn(2)], 0, api.KBool, api.KBool)
	case n < 8:
		return of(api.TLt+int8(g.Intn(4)), 0, api.KInt, api.KInt)
	case n < 10:
		kind := int8(1 + g.Intn(5))
		return of([]int8{api.TEq, api.TNe}[g.Intn(2)], 0, kind, kind)
	case n < 11:
		return g.node(api.Node{Op: api.TCall, Kind: api.KBool, N: 5}, g.expr(api.KCard, deep-1), g.node(api.Node{Op: api.TText, Text: []string{"beast", "x y", "", "none"}[g.Intn(4)]}))
	}
	return [][]api.Node{of(api.TField, 8, api.KPlayer), of(api.TCall, 4, api.KList, api.KCard)}[g.Intn(2)]
}

// anyGame is a state that may be, with any card and player, and no answers.
func anyGame(r *rand.Rand) game {
	stat := func() int32 {
		return []int32{0, r.Int31n(9) - 4, api.MaxStat, -api.MaxStat}[r.Intn(4)]
	}
	s := api.State{Turn: 1 + r.Int31n(100), Zones: make([][]int, 4*(2+r.Intn(3)))}
	for range len(s.Zones) / 4 {
		s.Players = append(s.Players, api.Player{Life: stat(), Energy: stat(), Out: r.Intn(2) == 0})
	}
	for _, c := range r.Perm(1 + r.Intn(7)) {
		z := r.Intn(len(s.Zones))
		s.Zones[z] = append(s.Zones[z], c)
		s.Cards = append(s.Cards, api.Card{Kind: r.Intn(2), Owner: r.Intn(len(s.Players)), Power: stat(), Health: stat(), Damage: stat(), Marks: stat()})
	}
	return game{s, r.Intn(len(s.Cards)), r.Intn(len(s.Players)), nil}
}

// answer is one to that question, mostly one that may be.
func answer(r *rand.Rand, ask int64) int64 {
	if r.Intn(20) == 0 {
		return []int64{-1, ask, least, most}[r.Intn(4)]
	}
	return r.Int63n(ask)
}

// wantAlikeOn runs both with one answer more each time, till they end otherwise than starved.
func wantAlikeOn(t *testing.T, r *rand.Rand, what string, a, b api.Ability, g game, counts map[string]int) {
	t.Helper()
	for range 12 {
		x := wantAlike(t, what, a, b, g)
		counts[fmt.Sprint("end ", x.End, " ", int(x.Err))]++
		if len(x.Trace) > 0 {
			counts["events"]++
		}
		if x.End != api.Starved {
			return
		}
		g.answers = append(g.answers, answer(r, x.Ask))
	}
}

// count counts what has been done to the ability.
func count(counts map[string]int, a, b api.Ability) {
	for what, yes := range map[string]bool{
		"kept": same(a, b), "emptied": len(b.Tree) == 1 && len(a.Tree) > 1, "fewer nodes": len(b.Tree) < len(a.Tree),
		"fewer slots": len(b.Slots) < len(a.Slots), "no condition": a.When && !b.When, "a condition": b.When,
	} {
		if yes {
			counts[what]++
		}
	}
}

func TestAblesByChance(t *testing.T) {
	r := rand.New(rand.NewSource(15))
	counts := map[string]int{}
	for i := range 4000 {
		a := grown(r)
		if !check.Able(a) {
			t.Fatalf("it may not be: %v", a)
		}
		b := wantFolded(t, fmt.Sprint(a), a)
		count(counts, a, b)
		for range 3 {
			g := anyGame(r)
			if why, at := state.Check(g.s); why != api.OK {
				t.Fatalf("the state may not be: %d", at)
			}
			wantAlikeOn(t, r, fmt.Sprint(i, ": ", a), a, b, g, counts)
		}
	}
	for _, what := range []string{"end 0 0", "end 1 60", "end 1 61", "end 1 62", "end 1 63", "end 2 0", "events", "kept", "emptied", "fewer nodes", "fewer slots", "no condition", "a condition"} {
		if counts[what] < 100 {
			t.Errorf("%s: %d: too few", what, counts[what])
		}
	}
	t.Log(counts)
}

// TestOtherPlaces says that nothing hangs on where an ability stands, nor on what stands beside it.
func TestOtherPlaces(t *testing.T) {
	r := rand.New(rand.NewSource(16))
	for range 500 {
		a, other := grown(r), grown(r)
		b, g := wantFolded(t, fmt.Sprint(a), a), anyGame(r)
		g.answers = []int64{r.Int63n(2), r.Int63n(3), 0, 0, 1}
		run := func(a api.Ability) string {
			d := []api.Design{{Tags: []string{"x y", ""}, Able: []api.Ability{other, a}}, {Tags: []string{"beast"}}}
			x, why := mean.Run(d, 0, 1, g.s, g.card, g.player, g.answers)
			return fmt.Sprint(x, int(why))
		}
		if x, y := run(a), run(b); x != y {
			t.Fatalf("P15.2: %v\nfolded %v\nin %+v:\n%s, not\n%s", a, b, g, y, x)
		}
	}
}
