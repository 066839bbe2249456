package check

import (
	"math/rand"
	"slices"
	"strconv"
	"testing"

	"tableau/api"
	"tableau/tree"
)

// grower: makes trees by chance, most of which may be; names and kinds that are wrong now and then.
type grower struct {
	*rand.Rand
	sap   int
	wrong int // one of so many is wrong
	seen  []binding
	cards int
}

func (g *grower) pick(l ...string) string { return l[g.Intn(len(l))] }

func (g *grower) errs() bool { return g.Intn(g.wrong) == 0 }

// slips is errs where there are few chances.
func (g *grower) slips() bool { return g.Intn(g.wrong/8) == 0 }

// plant is a node with these kids, wherever.
func (g *grower) plant(op int8, text string, n int64, kids ...[]api.Node) []api.Node {
	l := node(op, 0, n, kids...)
	l[0].Text, l[0].At = text, g.Intn(1<<20)
	return l
}

func (g *grower) several(most int, one func() []api.Node) [][]api.Node {
	var l [][]api.Node
	for range g.Intn(most + 1) {
		if g.sap > 0 {
			l = append(l, one())
		}
	}
	return l
}

func (g *grower) pack() []api.Node {
	return g.plant(api.TPack, "", 0, g.several(4, g.card)...)
}

func (g *grower) card() []api.Node {
	g.cards++
	name := "card " + strconv.Itoa(g.cards)
	if g.slips() {
		name = "card 1"
	}
	said := map[int8]bool{}
	return g.plant(api.TCard, name, 0, g.several(6, func() []api.Node { return g.line(said) })...)
}

func (g *grower) line(said map[int8]bool) []api.Node {
	g.sap--
	op := api.TCost + int8(g.Intn(3))
	switch {
	case g.Intn(5) == 0 && (!said[op] || g.slips()):
		said[op] = true
		n := int64(g.Intn(1000000001))
		if g.slips() {
			n = 1000000000 + int64(g.Intn(3))
		}
		return g.plant(op, "", n)
	case g.Intn(6) == 0:
		tag := strconv.Itoa(g.Intn(1 << 20))
		if g.slips() {
			tag = "again"
		}
		return g.plant(api.TTag, tag, 0)
	}
	g.seen = []binding{{"self", 0, kCard, false}, {"me", 0, kPlayer, false}}
	if g.Intn(2) == 0 {
		return g.plant(api.TOn, "", g.Int63n(5), g.expr(kBool), g.block())
	}
	return g.plant(api.TOn, "", g.Int63n(5), g.block())
}

func (g *grower) block() []api.Node {
	around := slices.Clone(g.seen)
	l := g.plant(api.TBlock, "", 0, g.several(5, g.statement)...)
	if !g.slips() {
		g.seen = around
	}
	return l
}

func (g *grower) any() int8 { return 1 + int8(g.Intn(6)) }

// declared is a name that is not seen, most of the time; it is seen then.
func (g *grower) declared(kind int8, let bool) string {
	name := "v" + strconv.Itoa(g.Intn(40))
	for !g.slips() && lookup(g.seen, name) != nil {
		name = "v" + strconv.Itoa(g.Intn(40))
	}
	g.seen = append(slices.Clone(g.seen), binding{name, 0, kind, let})
	return name
}

func (g *grower) statement() []api.Node {
	g.sap--
	around := g.seen
	switch g.Intn(10) {
	case 0, 1:
		kind := g.any()
		e := g.expr(kind)
		return g.plant(api.TLet, g.declared(kind, true), 0, e)
	case 2:
		v := g.seen[g.Intn(len(g.seen))]
		if v.let || g.slips() {
			return g.plant(api.TSet, v.name, 0, g.expr(v.kind))
		}
		return g.plant(api.TStop+int8(g.Intn(2)), "", 0)
	case 3, 4:
		return g.ifs()
	case 5:
		n := g.Int63n(256)
		if g.errs() {
			n = 255 + g.Int63n(3)
		}
		name := g.declared(kInt, false)
		l := g.plant(api.TRepeat, name, n, g.block())
		g.seen = around
		return l
	case 6:
		e := g.expr(kList)
		l := g.plant(api.TEach, g.declared(kCard, false), 0, e, g.block())
		g.seen = around
		return l
	case 7:
		kids := [][]api.Node{g.expr(kList)}
		name := g.declared(kCard, false)
		kids = append(kids, g.block())
		if !g.errs() {
			g.seen = around
		}
		kids = append(kids, g.block())
		g.seen = around
		return g.plant(api.TChoose, name, 0, kids[:2+g.Intn(2)]...)
	}
	list := entries(doTable)
	return g.call(api.TDo, list[g.Intn(len(list))])
}

func (g *grower) ifs() []api.Node {
	g.sap--
	kids := [][]api.Node{g.expr(kBool), g.block()}
	switch g.Intn(3) {
	case 1:
		kids = append(kids, g.block())
	case 2:
		kids = append(kids, g.ifs())
	}
	return g.plant(api.TIf, "", 0, kids...)
}

func (g *grower) call(op int8, e entry) []api.Node {
	var kids [][]api.Node
	for i := range len(e.takes) {
		switch takes := e.takes[i : i+1]; {
		case op == api.TCall && (takes == "w") != g.errs():
			kids = append(kids, g.plant(api.TWord, "", g.Int63n(4)))
		case op == api.TCall && (takes == "t") != g.errs():
			kids = append(kids, g.plant(api.TText, g.pick("", "x", "Fox", "again"), 0))
		case takes == "w" || takes == "t":
			kids = append(kids, g.expr(g.any()))
		default:
			kids = append(kids, g.expr(kindOf(takes)))
		}
	}
	if g.errs() {
		kids = append(kids, g.expr(g.any()))
	} else if g.errs() {
		kids = kids[1:]
	}
	name := e.name
	if g.errs() {
		name = g.pick("wave", "move", "next", "cards", "v1", "min")
	}
	return g.plant(op, name, 0, kids...)
}

// expr is an expression of that kind, most of the time.
func (g *grower) expr(kind int8) []api.Node {
	g.sap--
	if g.errs() {
		kind = g.any()
	}
	var names []string
	for _, v := range g.seen {
		if v.kind == kind {
			names = append(names, v.name)
		}
	}
	if len(names) > 0 && g.Intn(3) == 0 {
		return g.plant(api.TName, g.pick(names...), 0)
	}
	if g.errs() {
		return g.plant(api.TName, "v"+strconv.Itoa(g.Intn(40)), 0)
	}
	switch {
	case kind == kInt && (g.sap < 0 || g.Intn(3) == 0):
		return g.plant(api.TNum, "", g.Int63()>>g.Intn(63))
	case kind == kBool && (g.sap < 0 || g.Intn(3) == 0):
		return g.plant(api.TTrue+int8(g.Intn(2)), "", 0)
	case kind == kInt && g.Intn(2) == 0:
		return g.marked(kInt)
	case kind == kBool && g.Intn(3) > 0:
		return g.marked(kBool)
	}
	return g.told(kind)
}

func (g *grower) marked(kind int8) []api.Node {
	between := func(op, kind int8) []api.Node {
		return g.plant(op, "", 0, g.expr(kind), g.expr(kind))
	}
	if kind == kInt {
		if g.Intn(5) == 0 {
			return g.plant(api.TNeg, "", 0, g.expr(kInt))
		}
		return between(api.TAdd+int8(g.Intn(5)), kInt)
	}
	switch g.Intn(4) {
	case 0:
		return g.plant(api.TNot, "", 0, g.expr(kBool))
	case 1:
		return between(api.TOr+int8(g.Intn(2)), kBool)
	case 2:
		return between(api.TLt+int8(g.Intn(4)), kInt)
	}
	k := 1 + int8(g.Intn(5))
	if g.errs() {
		k = kList
	}
	return between(api.TEq+int8(g.Intn(2)), k)
}

// told is a field, a call or a name of that kind.
func (g *grower) told(kind int8) []api.Node {
	switch {
	case g.sap < 0 && kind == kCard:
		return g.plant(api.TName, "self", 0)
	case g.sap < 0 && kind == kPlayer:
		return g.plant(api.TName, "me", 0)
	}
	fits := func(l []entry) []entry {
		return slices.DeleteFunc(l, func(e entry) bool { return e.tells != kind })
	}
	funcs, fields := fits(entries(funcTable)), fits(entries(fieldTable))
	if len(funcs) > 0 && (len(fields) == 0 || g.Intn(2) == 0) {
		return g.call(api.TCall, funcs[g.Intn(len(funcs))])
	}
	if len(fields) == 0 {
		return g.plant(api.TName, "self", 0)
	}
	f := fields[g.Intn(len(fields))]
	if g.errs() {
		f.name = g.pick("wings", "self", "next", "power", "count")
	}
	return g.plant(api.TField, f.name, 0, g.expr(kindOf(f.takes)))
}

// grown is trees that tree.Check takes, so many.
func grown(seed int64, many int) [][]api.Node {
	r := rand.New(rand.NewSource(seed))
	var l [][]api.Node
	for len(l) < many {
		g := &grower{Rand: r, sap: 10 + r.Intn(200), wrong: []int{40, 200, 1000, 1 << 30}[r.Intn(4)]}
		if t := g.pack(); len(t) > 1 {
			if why, _ := tree.Check(t); why == api.OK {
				l = append(l, t)
			}
		}
	}
	return l
}

func TestTreesByChance(t *testing.T) {
	ends := map[api.Errno]int{}
	for _, l := range grown(1, 6000) {
		want, why, at := packed(l)
		d, e, place := Pack(l)
		ends[why]++
		if e != why || place != at || !sameDesigns(d, want) || e != api.OK && d != nil {
			t.Fatalf("P13.1: %v:\n%v, %d at %d, not\n%v, %d at %d", l, d, e, place, want, why, at)
		}
		holdAbilities(t, "by chance", keep(l, e), d)
	}
	for _, why := range []api.Errno{api.OK, api.ErrName, api.ErrType, api.ErrCall, api.ErrArgs, api.ErrSet, api.ErrTwice, api.ErrSize} {
		if ends[why] < 20 {
			t.Errorf("%d trees end with %d: too few", ends[why], why)
		}
	}
	t.Log(ends)
}

// keep is the tree, or none, if it was refused.
func keep(l []api.Node, why api.Errno) []api.Node {
	if why == api.OK {
		return l
	}
	return nil
}

// bend changes something of the ability.
func bend(r *rand.Rand, a api.Ability) api.Ability {
	a = copied(a)
	i := r.Intn(len(a.Tree))
	n := &a.Tree[i]
	near := func() int64 {
		return []int64{-1, 0, 1, 2, 3, n.N + 1, n.N - 1, n.M, int64(r.Intn(34)), 255, 256}[r.Intn(11)]
	}
	switch r.Intn(16) {
	case 0:
		n.Op = int8(r.Intn(54))
	case 1:
		n.Op += int8(r.Intn(3)) - 1
	case 2:
		n.Kind = int8(r.Intn(9)) - 1
	case 3, 4, 5:
		n.N = near()
	case 6:
		n.M = near()
	case 7:
		n.Text = []string{"", "x", "\n", "self"}[r.Intn(4)]
	case 8:
		n.At = []int{-1, 0, 9}[r.Intn(3)]
	case 9:
		n.Kids += r.Intn(3) - 1
	case 10:
		a.Tree = slices.Delete(a.Tree, i, i+1)
	case 11:
		a.Tree = slices.Insert(a.Tree, i, a.Tree[r.Intn(len(a.Tree))])
	case 12:
		a.On = r.Intn(8) - 1
	case 13:
		a.When = !a.When
	case 14:
		a.Slots[r.Intn(len(a.Slots))] = int8(r.Intn(8))
	case 15:
		j := r.Intn(len(a.Tree))
		a.Tree[i], a.Tree[j] = a.Tree[j], a.Tree[i]
	}
	return a
}

func TestAbilitiesByChance(t *testing.T) {
	r := rand.New(rand.NewSource(2))
	ends := map[bool]int{}
	for _, l := range grown(3, 1500) {
		d, _, _ := Pack(l)
		for _, x := range d {
			for _, a := range x.Able {
				for range 12 {
					b := bend(r, a)
					for r.Intn(3) == 0 && len(b.Tree) > 0 {
						b = bend(r, b)
					}
					may := mayBe(b)
					ends[may]++
					if Able(b) != may {
						t.Fatalf("P13.2: %v: %v", b, !may)
					}
				}
			}
		}
	}
	if ends[true] < 1000 || ends[false] < 5000 {
		t.Errorf("%v: too few", ends)
	}
	t.Log(ends)
}

// turned is the tree with other names for its variables, each one for one.
func turned(l []api.Node, other func(name string) string) []api.Node {
	l = slices.Clone(l)
	for i, n := range l {
		variable := n.Op == api.TLet || n.Op == api.TSet || n.Op == api.TRepeat || n.Op == api.TEach || n.Op == api.TChoose || n.Op == api.TName
		if variable && n.Text != "self" && n.Text != "me" {
			l[i].Text = other(n.Text)
		}
	}
	return l
}

// What follows: other names change nothing, and each ability that Pack answers is Able.
func TestOtherNamesChangeNothing(t *testing.T) {
	good := 0
	for _, l := range grown(4, 1500) {
		d, why, at := Pack(l)
		if why == api.OK {
			good++
		}
		numbers := map[string]string{}
		for what, other := range map[string]func(name string) string{
			"longer": func(name string) string { return name + "_a" },
			"like functions": func(name string) string {
				if name == "v1" {
					return "next"
				}
				return name
			},
			"by number": func(name string) string {
				if numbers[name] == "" {
					numbers[name] = "slot" + strconv.Itoa(2+len(numbers))
				}
				return numbers[name]
			},
		} {
			e, f, place := Pack(turned(l, other))
			if f != why || place != at || !sameDesigns(d, e) {
				t.Fatalf("P13.1: with other names (%s) %v: %d at %d, not %d at %d", what, l, f, place, why, at)
			}
		}
		for _, x := range d {
			for _, a := range x.Able {
				if !Able(a) || !mayBe(a) || heightIn(a.Tree) > api.MaxStack {
					t.Fatalf("P13.2: %v is not Able", a)
				}
			}
		}
	}
	if good < 300 {
		t.Errorf("%d trees may be: too few", good)
	}
}

// junk is a node of nobody's making, with numbers that are near to what may be.
func junk(r *rand.Rand) api.Node {
	n := api.Node{Op: int8(r.Intn(54)), Kind: int8(r.Intn(7)), Kids: r.Intn(3)}
	if r.Intn(8) == 0 {
		n.Op, n.Kind, n.N, n.M, n.At, n.Kids = int8(r.Intn(256)), int8(r.Intn(256)), int64(r.Uint64()), int64(r.Uint64()), int(r.Uint64()), int(r.Uint64())
	}
	if r.Intn(3) == 0 {
		n.N = int64(r.Intn(6))
	}
	if r.Intn(6) == 0 {
		n.M = int64(r.Intn(6))
	}
	if r.Intn(6) == 0 {
		n.Text = []string{"x", "self", "hit", "\xff", "next"}[r.Intn(5)]
	}
	return n
}

// Whatever is handed in, both calls end, and tell what the document says.
func TestWhatNobodyMade(t *testing.T) {
	r := rand.New(rand.NewSource(5))
	for range 20000 {
		l := make([]api.Node, r.Intn(9))
		for i := range l {
			l[i] = junk(r)
		}
		if why, at := tree.Check(l); why != api.OK {
			wantRefused(t, "junk", l, why, at)
		}
		a := api.Ability{On: r.Intn(6) - 1, Slots: make([]int8, r.Intn(5)), When: r.Intn(2) == 0, Tree: l}
		for i := range a.Slots {
			a.Slots[i] = int8(r.Intn(7))
		}
		if r.Intn(2) == 0 {
			a.Slots = []int8{kCard, kPlayer}
		}
		if may := mayBe(a); Able(a) != may {
			t.Fatalf("P13.2: %v: %v", a, !may)
		}
	}
}
