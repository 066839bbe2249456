package check

import (
	"reflect"
	"slices"
	"strings"
	"testing"

	"tableau/api"
)

const (
	kInt    = api.KInt
	kBool   = api.KBool
	kCard   = api.KCard
	kPlayer = api.KPlayer
	kZone   = api.KZone
	kList   = api.KList
)

// whole is the list without what is nil and what is empty told apart.
func whole(l []api.Design) []api.Design {
	var out []api.Design
	for _, d := range l {
		d.Tags = append([]string{}, d.Tags...)
		able := []api.Ability{}
		for _, a := range d.Able {
			a.Slots = append([]int8{}, a.Slots...)
			a.Tree = append([]api.Node{}, a.Tree...)
			able = append(able, a)
		}
		d.Able = able
		out = append(out, d)
	}
	return out
}

func sameDesigns(a, b []api.Design) bool {
	return reflect.DeepEqual(whole(a), whole(b))
}

func wantDesigns(t *testing.T, src string, want ...api.Design) {
	t.Helper()
	if got := wantOK(t, src); !sameDesigns(got, want) {
		t.Errorf("P13.1: %s:\n%v, not\n%v", src, got, want)
	}
}

func TestCards(t *testing.T) {
	empty := api.Ability{Slots: []int8{kCard, kPlayer}, Tree: []api.Node{{Op: api.TBlock}}}
	able := func(on, at int) api.Ability {
		a := empty
		a.On = on
		a.Tree = []api.Node{{Op: api.TBlock, At: at}}
		return a
	}
	wantDesigns(t, "")
	wantDesigns(t, `card "" { }`, api.Design{})
	wantDesigns(t, `card "A" { cost 1; power 2; health 3; }`, api.Design{Name: "A", Cost: 1, Power: 2, Health: 3})
	wantDesigns(t, `card "A" { health 3; tag "z"; cost 1; tag ""; tag "a b~"; power 2; }`, api.Design{Name: "A", Cost: 1, Power: 2, Health: 3, Tags: []string{"z", "", "a b~"}})
	wantDesigns(t, `card "A" { power 2; } card "B" { cost 0; health 5; } card "" { }`, api.Design{Name: "A", Power: 2}, api.Design{Name: "B", Health: 5}, api.Design{})
	wantDesigns(t, `card "A" { cost 1000000000; power 1000000000; health 1000000000; }`, api.Design{Name: "A", Cost: 1e9, Power: 1e9, Health: 1e9})
	wantDesigns(t, `card "A" { on draw {} on play {} tag "x"; on turn {} on die {} on hit {} on play {} }`,
		api.Design{Name: "A", Tags: []string{"x"}, Able: []api.Ability{able(4, 19), able(0, 30), able(3, 50), able(1, 60), able(2, 70), able(0, 81)}})
	wantDesigns(t, `card "A" { on hit {} } card "B" { on die {} }`, api.Design{Name: "A", Able: []api.Ability{able(2, 18)}}, api.Design{Name: "B", Able: []api.Ability{able(1, 41)}})
}

// wantAbility holds the one ability of the source against this; where each node stands is marked by the @ of the source, in the list's order.
func wantAbility(t *testing.T, marked string, cond bool, slots []int8, nodes ...api.Node) {
	t.Helper()
	parts := strings.Split(marked, "@")
	src := strings.Join(parts, "")
	var places []int
	at := 0
	for _, p := range parts[:len(parts)-1] {
		at += len(p)
		places = append(places, at)
	}
	d := wantOK(t, src)
	if len(d) != 1 || len(d[0].Able) != 1 {
		t.Fatalf("P13.1: %s: %v", src, d)
	}
	a := d[0].Able[0]
	if a.When != cond || a.On != 0 || !slices.Equal(a.Slots, slots) {
		t.Errorf("P13.1: %s: On %d, When %v, Slots %v, not %v", src, a.On, a.When, a.Slots, slots)
	}
	if len(a.Tree) != len(nodes) {
		t.Fatalf("P13.1: %s: %d nodes, not %d", src, len(a.Tree), len(nodes))
	}
	var stood []int
	for i, n := range a.Tree {
		stood = append(stood, n.At)
		n.At = 0
		if n != nodes[i] {
			t.Errorf("P13.1: %s: the node %d: %v, not %v", src, i, n, nodes[i])
		}
	}
	slices.Sort(stood)
	if !slices.Equal(stood, places) {
		t.Errorf("P13.1: %s: at %v, not %v", src, stood, places)
	}
}

func TestTheExample(t *testing.T) {
	d := wantOK(t, `card "A" { tag "x"; health 3; on play when me.life < 3 { let a = 1; each c in zone(me, hand).cards { hit(c, a); } } }`)
	if len(d) != 1 || d[0].Name != "A" || d[0].Health != 3 || d[0].Cost != 0 || d[0].Power != 0 || !slices.Equal(d[0].Tags, []string{"x"}) {
		t.Errorf("P13.1: the example: %v", d)
	}
	wantAbility(t, `card "A" { tag "x"; health 3; on play when @me.@life @< @3 @{ @let a = @1; @each c in @zone(@me, @hand).@cards @{ @hit(@c, @a); } } }`, true, []int8{kCard, kPlayer, kInt, kCard, kList, kInt},
		api.Node{Op: api.TLt, Kind: kBool, Kids: 2}, api.Node{Op: api.TField, Kind: kInt, N: 6, Kids: 1}, api.Node{Op: api.TName, Kind: kPlayer, N: 1}, api.Node{Op: api.TNum, Kind: kInt, N: 3},
		api.Node{Op: api.TBlock, Kids: 2}, api.Node{Op: api.TLet, N: 2, Kids: 1}, api.Node{Op: api.TNum, Kind: kInt, N: 1},
		api.Node{Op: api.TEach, N: 3, M: 4, Kids: 2}, api.Node{Op: api.TField, Kind: kList, N: 10, Kids: 1}, api.Node{Op: api.TCall, Kind: kZone, N: 1, Kids: 2}, api.Node{Op: api.TName, Kind: kPlayer, N: 1}, api.Node{Op: api.TWord, N: 1},
		api.Node{Op: api.TBlock, Kids: 1}, api.Node{Op: api.TDo, N: 3, Kids: 2}, api.Node{Op: api.TName, Kind: kCard, N: 3}, api.Node{Op: api.TName, Kind: kInt, N: 2})
}

func TestStatements(t *testing.T) {
	two := []int8{kCard, kPlayer}
	num := func(n int64) api.Node { return api.Node{Op: api.TNum, Kind: kInt, N: n} }
	name := func(slot int64, kind int8) api.Node { return api.Node{Op: api.TName, Kind: kind, N: slot} }
	block := func(kids int) api.Node { return api.Node{Op: api.TBlock, Kids: kids} }
	wantAbility(t, `card "A" { on play @{ } }`, false, two, block(0))
	wantAbility(t, `card "A" { on play @{ @stop; @abort; } }`, false, two, block(2), api.Node{Op: api.TStop}, api.Node{Op: api.TAbort})
	wantAbility(t, `card "A" { on play @{ @let x = @me; @x = @x; @let y = @true; @y = @false; } }`, false, append(slices.Clone(two), kPlayer, kBool),
		block(4), api.Node{Op: api.TLet, N: 2, Kids: 1}, name(1, kPlayer), api.Node{Op: api.TSet, N: 2, Kids: 1}, name(2, kPlayer),
		api.Node{Op: api.TLet, N: 3, Kids: 1}, api.Node{Op: api.TTrue, Kind: kBool}, api.Node{Op: api.TSet, N: 3, Kids: 1}, api.Node{Op: api.TFalse, Kind: kBool})
	wantAbility(t, `card "A" { on play @{ @if @true @{ } @if @true @{ } else @{ @stop; } @if @true @{ } else @if @false @{ } else @{ } } }`, false, two,
		block(3), api.Node{Op: api.TIf, Kids: 2}, api.Node{Op: api.TTrue, Kind: kBool}, block(0),
		api.Node{Op: api.TIf, Kids: 3}, api.Node{Op: api.TTrue, Kind: kBool}, block(0), block(1), api.Node{Op: api.TStop},
		api.Node{Op: api.TIf, Kids: 3}, api.Node{Op: api.TTrue, Kind: kBool}, block(0), api.Node{Op: api.TIf, Kids: 3}, api.Node{Op: api.TFalse, Kind: kBool}, block(0), block(0))
	wantAbility(t, `card "A" { on play @{ @repeat 255 as i @{ @repeat 0 as j @{ @mark(@self, @i @- @j); } } @let k = @9; } }`, false, append(slices.Clone(two), kInt, kInt, kInt),
		block(2), api.Node{Op: api.TRepeat, N: 255, M: 2, Kids: 1}, block(1), api.Node{Op: api.TRepeat, N: 0, M: 3, Kids: 1}, block(1),
		api.Node{Op: api.TDo, N: 6, Kids: 2}, name(0, kCard), api.Node{Op: api.TSub, Kind: kInt, Kids: 2}, name(2, kInt), name(3, kInt), api.Node{Op: api.TLet, N: 4, Kids: 1}, num(9))
	wantAbility(t, `card "A" { on play @{ @let l = @self.@place.@cards; @choose c in @l @{ @draw(@c.@owner); } else @{ @let d = @self; } @each e in @l @{ } @choose f in @l @{ } } }`, false, append(slices.Clone(two), kList, kCard, kCard, kCard, kList, kInt, kCard),
		block(4), api.Node{Op: api.TLet, N: 2, Kids: 1}, api.Node{Op: api.TField, Kind: kList, N: 10, Kids: 1}, api.Node{Op: api.TField, Kind: kZone, N: 5, Kids: 1}, name(0, kCard),
		api.Node{Op: api.TChoose, N: 3, Kids: 3}, name(2, kList), block(1), api.Node{Op: api.TDo, N: 2, Kids: 1}, api.Node{Op: api.TField, Kind: kPlayer, N: 4, Kids: 1}, name(3, kCard),
		block(1), api.Node{Op: api.TLet, N: 4, Kids: 1}, name(0, kCard),
		api.Node{Op: api.TEach, N: 5, M: 6, Kids: 2}, name(2, kList), block(0), api.Node{Op: api.TChoose, N: 8, Kids: 2}, name(2, kList), block(0))
	wantAbility(t, `card "A" { on play @{ @if @is(@self, @"a \"b\" ~") @{ } @let x = @is(@self, @""); } }`, false, append(slices.Clone(two), kBool),
		block(2), api.Node{Op: api.TIf, Kids: 2}, api.Node{Op: api.TCall, Kind: kBool, N: 5, Kids: 2}, name(0, kCard), api.Node{Op: api.TText, Text: `a "b" ~`}, block(0),
		api.Node{Op: api.TLet, N: 2, Kids: 1}, api.Node{Op: api.TCall, Kind: kBool, N: 5, Kids: 2}, name(0, kCard), api.Node{Op: api.TText})
	wantAbility(t, `card "A" { on play when @!@me.@out @&& @true @{ } }`, true, two,
		api.Node{Op: api.TAnd, Kind: kBool, Kids: 2}, api.Node{Op: api.TNot, Kind: kBool, Kids: 1}, api.Node{Op: api.TField, Kind: kBool, N: 8, Kids: 1}, name(1, kPlayer), api.Node{Op: api.TTrue, Kind: kBool}, block(0))
	wantAbility(t, `card "A" { on play @{ @let n = @-@9223372036854775807; @n = @0; } }`, false, append(slices.Clone(two), kInt),
		block(2), api.Node{Op: api.TLet, N: 2, Kids: 1}, api.Node{Op: api.TNeg, Kind: kInt, Kids: 1}, num(1<<63-1), api.Node{Op: api.TSet, N: 2, Kids: 1}, num(0))
	for w, word := range []string{"deck", "hand", "board", "grave"} {
		wantAbility(t, `card "A" { on play @{ @shuffle(@zone(@me, @`+word+`)); } }`, false, two,
			block(1), api.Node{Op: api.TDo, N: 8, Kids: 1}, api.Node{Op: api.TCall, Kind: kZone, N: 1, Kids: 2}, name(1, kPlayer), api.Node{Op: api.TWord, N: int64(w)})
	}
}

// Slots go on through the whole ability, in the order of the text; the next ability begins anew.
func TestSlots(t *testing.T) {
	const list = "self.place.cards"
	for _, x := range []struct {
		src   string
		slots []int8
	}{
		{"", nil}, {"let a = 1;", []int8{kInt}}, {"let a = true; let b = self; let c = me; let d = self.place; let e = " + list + ";", []int8{kBool, kCard, kPlayer, kZone, kList}},
		{"if true { let a = 1; } else { let a = me; }", []int8{kInt, kPlayer}}, {"if true { let a = 1; } let a = self;", []int8{kInt, kCard}},
		{"repeat 1 as i { let a = self; } repeat 1 as i { }", []int8{kInt, kCard, kInt}}, {"each c in " + list + " { let a = 1; } let c = me;", []int8{kCard, kList, kInt, kInt, kPlayer}},
		{"each c in " + list + " { each d in " + list + " { } }", []int8{kCard, kList, kInt, kCard, kList, kInt}},
		{"choose c in " + list + " { let a = me; } else { let c = 1; } let c = true;", []int8{kCard, kPlayer, kInt, kBool}},
		{"if true { if true { let a = 1; } let a = me; } else if true { let a = self; } else { let a = true; }", []int8{kInt, kPlayer, kCard, kBool}},
	} {
		want := append([]int8{kCard, kPlayer}, x.slots...)
		src := `card "A" { on play { ` + x.src + ` } on die { let z = self.place; } on hit { ` + x.src + ` } }`
		d := wantOK(t, src)
		if d == nil || len(d[0].Able) != 3 {
			t.Fatalf("P13.1: %s: %v", src, d)
		}
		able := d[0].Able
		if !slices.Equal(able[0].Slots, want) || !slices.Equal(able[2].Slots, want) || !slices.Equal(able[1].Slots, []int8{kCard, kPlayer, kZone}) {
			t.Errorf("P13.1: %s: slots %v, %v, %v", src, able[0].Slots, able[1].Slots, able[2].Slots)
		}
	}
}
