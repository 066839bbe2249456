package check

import (
	"math"
	"slices"
	"strings"
	"testing"

	"tableau/api"
)

// ability is the one ability that the source has.
func ability(t *testing.T, src string) api.Ability {
	t.Helper()
	d := wantOK(t, src)
	if len(d) != 1 || len(d[0].Able) != 1 {
		t.Fatalf("P13.1: %s: %v", short(src), d)
	}
	return d[0].Able[0]
}

// copied is the ability in memory of its own.
func copied(a api.Ability) api.Ability {
	a.Slots, a.Tree = slices.Clone(a.Slots), slices.Clone(a.Tree)
	return a
}

func wantAble(t *testing.T, what string, a api.Ability, may bool) {
	t.Helper()
	if Able(a) != may {
		t.Errorf("P13.2: %s: %v", what, !may)
	}
}

// someAbilities are sources with one ability each, with nodes of all kinds.
func someAbilities() []string {
	return []string{
		in(""), when("true"), in("stop; abort;"), in("let x = 1; x = x + 2;"), in("repeat 3 as i { mark(self, i); }"), in("each c in " + list + " { hit(c, 1); }"), in("choose c in " + list + " { draw(c.owner); } else { let d = 2; mark(self, d); }"),
		in("if true { let x = 1; } else if me.out { let y = self; hit(y, 1); } else { stop; }"), in(`if is(self, "beast") != false { shuffle(zone(me, grave)); }`), in("let x = -(1 - 2) * 3 / 4 % 5; let b = !(x < 1 || x <= 2 && x > 3 || x >= 4);"),
		`card "A" { on draw when self.marks == 0 { let l = zone(next(me), hand).cards; let n = l.count; each c in l { each d in l { if c == d && has(l, top(c.place)) { harm(c.place.holder, abs(min(n, max(1, random(2))))); } } } } }`,
	}
}

func TestOnAndWhen(t *testing.T) {
	for _, src := range someAbilities() {
		a := ability(t, src)
		for on := -3; on <= 8; on++ {
			b := copied(a)
			b.On = on
			wantAble(t, src, b, on >= 0 && on <= 4)
		}
		for _, on := range []int{math.MinInt, -256, 256, 1 << 32, math.MaxInt} {
			b := copied(a)
			b.On = on
			wantAble(t, src, b, false)
		}
		b := copied(a)
		b.When = !a.When
		wantAble(t, src+", When turned", b, false)
	}
}

func TestConditionAndBlockAndNothingElse(t *testing.T) {
	slots := []int8{kCard, kPlayer}
	yes, one, block, stop := api.Node{Op: api.TTrue, Kind: kBool}, api.Node{Op: api.TNum, Kind: kInt, N: 1}, api.Node{Op: api.TBlock}, api.Node{Op: api.TStop}
	for _, x := range []struct {
		what        string
		tree        []api.Node
		alone, cond bool
	}{
		{"nothing", nil, false, false}, {"a block", []api.Node{block}, true, false}, {"a condition and a block", []api.Node{yes, block}, false, true}, {"a condition", []api.Node{yes}, false, false}, {"a block and a condition", []api.Node{block, yes}, false, false}, {"two blocks", []api.Node{block, block}, false, false},
		{"a condition and two blocks", []api.Node{yes, block, block}, false, false}, {"two conditions and a block", []api.Node{yes, yes, block}, false, false}, {"a number and a block", []api.Node{one, block}, false, false}, {"a statement", []api.Node{stop}, false, false}, {"a condition and a statement", []api.Node{yes, stop}, false, false}, {"a block and a statement", []api.Node{block, stop}, false, false},
		{"a block of one, cut off", []api.Node{{Op: api.TBlock, Kids: 1}}, false, false}, {"a block of fewer than none", []api.Node{{Op: api.TBlock, Kids: -1}}, false, false}, {"a block of very many", []api.Node{{Op: api.TBlock, Kids: math.MaxInt}, stop}, false, false}, {"a block of a block", []api.Node{{Op: api.TBlock, Kids: 1}, block}, false, false}, {"a block of an expression", []api.Node{{Op: api.TBlock, Kids: 1}, yes}, false, false},
		{"an on", []api.Node{{Op: api.TOn, Kids: 1}, block}, false, false}, {"a pack", []api.Node{{Op: api.TPack}}, false, false}, {"a block of a card", []api.Node{{Op: api.TBlock, Kids: 1}, {Op: api.TCard}}, false, false}, {"a line behind a block", []api.Node{block, {Op: api.TCost}}, false, false}, {"a card behind a block", []api.Node{block, {Op: api.TCard}}, false, false}, {"a word as a condition", []api.Node{{Op: api.TWord}, block}, false, false}, {"a text as a condition", []api.Node{{Op: api.TText}, block}, false, false},
	} {
		wantAble(t, x.what, api.Ability{Slots: slots, Tree: x.tree}, x.alone)
		wantAble(t, x.what+", with When", api.Ability{Slots: slots, Tree: x.tree, When: true}, x.cond)
	}
	wantAble(t, "no ability", api.Ability{}, false)
	wantAble(t, "no ability", api.Ability{Slots: []int8{}, Tree: []api.Node{}, When: true}, false)
	for op := math.MinInt8; op <= math.MaxInt8; op++ {
		wantAble(t, "a block of any node", api.Ability{Slots: slots, Tree: []api.Node{{Op: api.TBlock, Kids: 1}, {Op: int8(op)}}}, int8(op) == api.TStop || int8(op) == api.TAbort)
		wantAble(t, "any node in the place of the block", api.Ability{Slots: slots, Tree: []api.Node{{Op: int8(op)}}}, int8(op) == api.TBlock)
		wantAble(t, "any node in the place of the condition", api.Ability{Slots: slots, When: true, Tree: []api.Node{{Op: int8(op), Kind: kBool}, block}}, int8(op) == api.TTrue || int8(op) == api.TFalse)
	}
}

func TestSlotsOfAbilities(t *testing.T) {
	for _, src := range someAbilities() {
		a := ability(t, src)
		for i := range a.Slots {
			for k := int8(-2); k <= 8; k++ {
				b := copied(a)
				b.Slots[i] = k
				wantAble(t, src+", another kind of a slot", b, k == a.Slots[i])
				b = copied(a)
				b.Slots = slices.Insert(b.Slots, i, k)
				wantAble(t, src+", a slot more", b, false)
				b.Slots = append(copied(a).Slots, k)
				wantAble(t, src+", a slot more", b, false)
			}
			b := copied(a)
			b.Slots = slices.Delete(b.Slots, i, i+1)
			wantAble(t, src+", a slot less", b, false)
		}
		a.Slots = nil
		wantAble(t, src+", no slots", a, false)
	}
}

// Each field of each node, turned.
func TestFieldsOfNodes(t *testing.T) {
	for _, src := range someAbilities() {
		a := ability(t, src)
		for i, n := range a.Tree {
			turned := func(what string, may bool, turn func(n *api.Node)) {
				b := copied(a)
				turn(&b.Tree[i])
				wantAble(t, src+": "+what, b, may)
			}
			for k := int8(-1); k <= 8; k++ {
				turned("Kind", k == n.Kind, func(n *api.Node) { n.Kind = k })
			}
			for _, at := range []int{0, 1, 7, math.MaxInt} {
				turned("At", true, func(n *api.Node) { n.At = at })
			}
			for _, at := range []int{-1, -7, math.MinInt} {
				turned("At", false, func(n *api.Node) { n.At = at })
			}
			for _, m := range []int64{-1, 0, 1, 2, 3, 4, 5, 6, 31, 32, math.MinInt64, math.MaxInt64} {
				turned("M", m == n.M, func(n *api.Node) { n.M = m })
			}
			for _, s := range []string{"", "x", "self", "slot2", "hit", "\n", strings.Repeat("x", 64), strings.Repeat("x", 65), "\x7f", "~ ", "ä"} {
				text := n.Op == api.TText && s != "\n" && s != "\x7f" && s != "ä" && len(s) <= 64
				turned("Text", s == n.Text || text, func(n *api.Node) { n.Text = s })
			}
			for _, kids := range []int{-1, n.Kids - 1, n.Kids + 1, math.MinInt, math.MaxInt} {
				turned("Kids", false, func(n *api.Node) { n.Kids = kids })
			}
		}
	}
}

// N of each node: which numbers may be where.
func TestNumbersOfNodes(t *testing.T) {
	all := []int64{math.MinInt64, -1 << 32, -256, -1, 0, 1, 2, 3, 4, 5, 9, 13, 31, 32, 33, 254, 255, 256, 257, 1 << 32, 1<<32 + 1, math.MaxInt64}
	hold := func(src string, op int8, may func(n int64) bool) {
		t.Helper()
		a := ability(t, src)
		at := slices.IndexFunc(a.Tree, func(n api.Node) bool { return n.Op == op })
		for _, n := range all {
			b := copied(a)
			b.Tree[at].N = n
			wantAble(t, src, b, may(n))
		}
	}
	is := func(want ...int64) func(n int64) bool {
		return func(n int64) bool { return slices.Contains(want, n) }
	}
	from := func(least, most int64) func(n int64) bool {
		return func(n int64) bool { return least <= n && n <= most }
	}
	hold(in(""), api.TBlock, is(0))
	hold(in("let x = 1;"), api.TLet, is(2))
	hold(in("let x = 1; let y = 1; x = y;"), api.TSet, is(2, 3))
	hold(in("let x = 1; let y = self; let z = 1; x = 1;"), api.TSet, is(2, 4))
	hold(in("if true { let x = 1; } let y = 1; y = 1;"), api.TSet, is(3))
	hold(in("repeat 2 as i { let x = 1; x = 1; }"), api.TSet, is(3))
	hold(in("each c in "+list+" { let x = c; x = c; }"), api.TSet, is(5))
	hold(in("choose c in "+list+" { let x = c; x = c; }"), api.TSet, is(3))
	hold(in("stop;"), api.TStop, is(0))
	hold(in("abort;"), api.TAbort, is(0))
	hold(in("if true { }"), api.TIf, is(0))
	hold(in("repeat 2 as i { }"), api.TRepeat, from(0, 255))
	hold(in("each c in "+list+" { }"), api.TEach, is(2))
	hold(in("choose c in "+list+" { }"), api.TChoose, is(2))
	hold(in("hit(self, 1);"), api.TDo, is(3, 6, 7)) // hit, mark, grow
	hold(in("harm(me, 1);"), api.TDo, is(4, 5))
	hold(in("draw(me);"), api.TDo, is(2))
	hold(in("move(self, self.place);"), api.TDo, is(0, 1))
	hold(in("let x = 1;"), api.TNum, from(0, math.MaxInt64))
	hold(in("let x = true;"), api.TTrue, is(0))
	hold(in("let x = false;"), api.TFalse, is(0))
	hold(in("mark(self, 1);"), api.TName, is(0))
	hold(in("harm(me, 1);"), api.TName, is(1))
	hold(in("let x = 1 + 2;"), api.TAdd, is(0))
	hold(in("let x = !true;"), api.TNot, is(0))
	hold(in("let x = -1;"), api.TNeg, is(0))
	hold(in("if true || false { }"), api.TOr, is(0))
	hold(in("let x = self.power;"), api.TField, from(0, 3)) // owner and place tell other kinds
	hold(in("let x = me.life;"), api.TField, from(6, 7))
	hold(in("let x = min(1, 2);"), api.TCall, is(7, 8))
	hold(in("let x = abs(1);"), api.TCall, is(2, 6))
	hold(in("let x = zone(me, deck);"), api.TCall, is(1))
	hold(in("let x = zone(me, deck);"), api.TWord, from(0, 3))
	hold(in(`let x = is(self, "x");`), api.TText, is(0))
}

// Which slots a name may mean: those whose variables are seen there, of that kind.
func TestSlotsOfNames(t *testing.T) {
	hold := func(src string, may ...int64) {
		t.Helper()
		a := ability(t, src)
		last := 0
		for i, n := range a.Tree {
			if n.Op == api.TName {
				last = i
			}
		}
		for slot := int64(-2); slot < 40; slot++ {
			b := copied(a)
			b.Tree[last].N = slot
			wantAble(t, src, b, slices.Contains(may, slot))
		}
	}
	hold(in("let x = 1; let y = 2; let z = x + y;"), 2, 3)
	hold(in("let x = 1; let y = self; let z = x; mark(self, z);"), 2, 4)
	hold(in("if true { let x = 1; } let y = 1; mark(self, y);"), 3)
	hold(in("let y = 1; if true { let x = 1; let z = y; } let u = y;"), 2)
	hold(in("repeat 3 as i { } repeat 3 as j { mark(self, j); }"), 3)
	hold(in("repeat 3 as i { repeat 3 as j { mark(self, j); } }"), 2, 3)
	// The list's and the place's slots of an each are no variables.
	hold(in("let x = 7; each c in "+list+" { mark(c, x); }"), 2)
	hold(in("let l = "+list+"; each c in l { let m = l; }"), 2)
	hold(in("each c in "+list+" { hit(c, 1); }"), 0, 2)
	hold(in("choose c in "+list+" { } else { hit(self, 1); let d = self; }"), 0)
	hold(in("choose c in "+list+" { let d = c; }"), 0, 2)
	hold(in("let x = 1; x = x;"), 2)
}

// What a node declares is the next slot.
func TestSlotsThatAreDeclared(t *testing.T) {
	slots := []int8{kCard, kPlayer, kInt, kInt}
	num := api.Node{Op: api.TNum, Kind: kInt}
	let := func(slot int64) api.Node { return api.Node{Op: api.TLet, N: slot, Kids: 1} }
	for _, x := range []struct {
		first, second int64
	}{{2, 3}, {3, 2}, {2, 2}, {3, 3}, {0, 1}, {1, 2}, {2, 4}, {3, 4}, {-1, 2}, {2, -1}} {
		tree := []api.Node{{Op: api.TBlock, Kids: 2}, let(x.first), num, let(x.second), num}
		wantAble(t, "two lets", api.Ability{Slots: slots, Tree: tree}, x.first == 2 && x.second == 3)
		loop := []api.Node{{Op: api.TBlock, Kids: 2}, {Op: api.TRepeat, N: 1, M: x.first, Kids: 1}, {Op: api.TBlock}, {Op: api.TRepeat, N: 1, M: x.second, Kids: 1}, {Op: api.TBlock}}
		wantAble(t, "two repeats", api.Ability{Slots: slots, Tree: loop}, x.first == 2 && x.second == 3)
	}
	// A slot is not given twice, though the first variable is gone.
	twice := []api.Node{{Op: api.TBlock, Kids: 2}, {Op: api.TRepeat, N: 1, M: 2, Kids: 1}, {Op: api.TBlock}, {Op: api.TRepeat, N: 1, M: 2, Kids: 1}, {Op: api.TBlock}}
	wantAble(t, "one slot twice", api.Ability{Slots: slots[:3], Tree: twice}, false)
	wantAble(t, "one slot twice", api.Ability{Slots: slots, Tree: twice}, false)
}

// manyLets is an ability with so many slots.
func manyLets(slots int) api.Ability {
	a := api.Ability{Slots: []int8{kCard, kPlayer}, Tree: []api.Node{{Op: api.TBlock, Kids: slots - 2}}}
	for i := 2; i < slots; i++ {
		a.Slots = append(a.Slots, kInt)
		a.Tree = append(a.Tree, api.Node{Op: api.TLet, N: int64(i), Kids: 1}, api.Node{Op: api.TNum, Kind: kInt})
	}
	return a
}

// withEach is the ability with an each behind its other statements.
func withEach(a api.Ability) api.Ability {
	slot := int64(len(a.Slots))
	a = copied(a)
	a.Slots = append(a.Slots, kCard, kList, kInt)
	a.Tree[0].Kids++
	a.Tree = append(a.Tree, api.Node{Op: api.TEach, N: slot, M: slot + 1, Kids: 2},
		api.Node{Op: api.TField, Kind: kList, N: 10, Kids: 1}, api.Node{Op: api.TField, Kind: kZone, N: 5, Kids: 1}, api.Node{Op: api.TName, Kind: kCard}, api.Node{Op: api.TBlock})
	return a
}

func TestSizesOfAbilities(t *testing.T) {
	for slots := 2; slots <= 36; slots++ {
		wantAble(t, "so many slots", manyLets(slots), slots <= 32)
		wantAble(t, "so many slots and an each", withEach(manyLets(slots)), slots <= 29)
	}
	wantAble(t, "very many slots", manyLets(900), false)
	block := func(stops int) api.Ability {
		tree := append([]api.Node{{Op: api.TBlock, Kids: stops}}, slices.Repeat([]api.Node{{Op: api.TStop}}, stops)...)
		return api.Ability{Slots: []int8{kCard, kPlayer}, Tree: tree}
	}
	for _, nodes := range []int{2, 3, 1998, 1999, 2000, 2001, 2002, 4000, 1 << 17} {
		a := block(nodes - 1)
		wantAble(t, "so many nodes", a, nodes <= 2000)
		a = block(nodes - 2)
		a.When, a.Tree = true, append([]api.Node{{Op: api.TTrue, Kind: kBool}}, a.Tree...)
		wantAble(t, "so many nodes with a condition", a, nodes <= 2000)
	}
}

// How deep an ability is is not asked.
func TestDeepAbilities(t *testing.T) {
	for _, deep := range []int{1, 63, 64, 65, 66, 200, 999, 1000} {
		blocks := api.Ability{Slots: []int8{kCard, kPlayer}, Tree: []api.Node{{Op: api.TBlock, Kids: 1}}}
		for range deep - 1 {
			blocks.Tree = append(blocks.Tree, api.Node{Op: api.TIf, Kids: 2}, api.Node{Op: api.TTrue, Kind: kBool}, api.Node{Op: api.TBlock, Kids: 1})
		}
		blocks.Tree = append(blocks.Tree, api.Node{Op: api.TStop})
		wantAble(t, "blocks within blocks", blocks, len(blocks.Tree) <= 2000)
		nots := append(slices.Repeat([]api.Node{{Op: api.TNot, Kind: kBool, Kids: 1}}, deep), api.Node{Op: api.TTrue, Kind: kBool}, api.Node{Op: api.TBlock})
		wantAble(t, "nots within nots", api.Ability{Slots: []int8{kCard, kPlayer}, When: true, Tree: nots}, true)
	}
}
