package emit_test

import (
	"fmt"
	"math/rand"
	"slices"
	"strings"
	"testing"

	"tableau/api"
	"tableau/check"
	"tableau/emit"
)

// packOf is the pack of the designs, by the document's words.
func packOf(l []api.Design, cards int) (api.Pack, api.Errno) {
	if cards < 1 || cards > 256 || len(l) > 256 {
		return api.Pack{}, api.ErrArg
	}
	for _, d := range l {
		if !mayBe(d) {
			return api.Pack{}, api.ErrArg
		}
	}
	ints, texts := poolsOf(l)
	if len(ints) > 4096 || len(texts) > 4096 {
		return api.Pack{}, api.ErrSize
	}
	p := api.Pack{Cards: cards, Ints: ints, Texts: texts}
	for _, d := range l {
		k := api.Kind{Name: slices.Index(texts, d.Name), Cost: d.Cost, Power: d.Power, Health: d.Health}
		for number, s := range texts {
			if slices.Contains(d.Tags, s) {
				k.Tags = append(k.Tags, number)
			}
		}
		for _, a := range d.Able {
			k.Effects = append(k.Effects, api.Effect{On: a.On, Slots: a.Slots, Code: accountOf(a, ints, texts)})
		}
		p.Kinds = append(p.Kinds, k)
	}
	return p, api.OK
}

// mayBe tells whether the design may be, by the document's words.
func mayBe(d api.Design) bool {
	for i, s := range append([]string{d.Name}, d.Tags...) {
		if len(s) > 64 || strings.ContainsFunc(s, func(r rune) bool { return r < 32 || r > 126 }) {
			return false
		}
		if i > 0 && slices.Index(d.Tags, s) != i-1 {
			return false
		}
	}
	for _, n := range []int64{d.Cost, d.Power, d.Health} {
		if n < 0 || n > 1000000000 {
			return false
		}
	}
	for _, a := range d.Able {
		if !check.Able(a) {
			return false
		}
	}
	return len(d.Tags) <= 16 && len(d.Able) <= 8
}

// wantPack says that Pack answers as the document says, with this error.
func wantPack(t *testing.T, what string, l []api.Design, cards int, why api.Errno) api.Pack {
	t.Helper()
	p, err := emit.Pack(l, cards)
	want, fault := packOf(l, cards)
	if fault != why {
		t.Fatalf("P17.3: %.500s: the account is %d, not %d", what, int(fault), int(why))
	}
	// Of a list that is nil and one that is empty fmt writes the same.
	if err != why || fmt.Sprint(p) != fmt.Sprint(want) {
		t.Fatalf("P17.3: %.500s: %d, %.1000v, not %d, %.1000v", what, int(err), p, int(why), want)
	}
	return p
}

func TestPack(t *testing.T) {
	wantPack(t, "none", nil, 1, api.OK)
	wantPack(t, "an empty design", make([]api.Design, 1), 1, api.OK)
	p := wantPack(t, "the document's", designs(t, `card "Fox" { tag "beast"; on play { mark(self, 5); } on play { if 1 < 5 || false { } else { abort; } } on play { repeat 5 as i { } } on play { if is(self, "beast") != true { } } }`), 3, api.OK)
	if fmt.Sprint(p.Cards, p.Ints, p.Texts, len(p.Kinds)) != "3 [0 1 5] [Fox beast] 1" {
		t.Errorf("P17.3: the document's pools: %v", p)
	}
	p = wantPack(t, "two cards", designs(t, `card "b" { cost 1; power 2; health 3; tag "z"; tag "a"; tag "b"; on die when me.out { gain(me, 7); } on draw { let x = self.place.cards; } }
		card "a" { health 1000000000; on turn { choose c in self.place.cards { hit(c, 3); } } }`), 256, api.OK)
	want := "{256 [3 7] [a b z] [{1 1 2 3 [0 1 2] [{1 [3 4] [4 1 46 8 31 0 14 4 1 1 0 1 60 5 34] 0} {4 [3 4 6] [4 0 46 5 46 10 5 2 34] 0}]} {0 0 0 1000000000 [] [{3 [3 4 3] [4 0 46 5 46 10 33 0 18 5 2 4 2 1 0 0 60 3 34] 0}]}]}"
	if fmt.Sprint(p) != want {
		t.Errorf("P17.3: two cards: %v, not %s", p, want)
	}
	// That names are no two the same isn't asked for.
	wantPack(t, "a name twice", []api.Design{{Name: "a", Tags: []string{"a"}}, {Name: "a"}}, 1, api.OK)
}

func TestCardsOfPacks(t *testing.T) {
	l := designs(t, `card "a" { on play { gain(me, 7); } }`)
	for cards, why := range map[int]api.Errno{least: api.ErrArg, -1: api.ErrArg, 0: api.ErrArg, 1: api.OK, 2: api.OK, 255: api.OK, 256: api.OK, 257: api.ErrArg, 512: api.ErrArg, most: api.ErrArg} {
		wantPack(t, fmt.Sprint(cards, " cards"), l, cards, why)
		wantPack(t, fmt.Sprint(cards, " cards of none"), nil, cards, why)
		wantPack(t, fmt.Sprint(cards, " cards of one that may not be"), []api.Design{{Cost: -1}}, cards, api.ErrArg)
	}
}

func TestManyDesigns(t *testing.T) {
	for many, why := range map[int]api.Errno{255: api.OK, 256: api.OK, 257: api.ErrArg, 300: api.ErrArg} {
		l := make([]api.Design, many)
		wantPack(t, fmt.Sprint(many, " empty designs"), l, 1, why)
		for i := range l {
			l[i] = api.Design{Name: fmt.Sprint("card ", i), Able: []api.Ability{does(gains(whole(int64(-i + 999))))}}
		}
		wantPack(t, fmt.Sprint(many, " designs"), l, 256, why)
	}
}

// TestDesignsThatMayNotBe is each way in which a design may be, and may not.
func TestDesignsThatMayNotBe(t *testing.T) {
	long, line := strings.Repeat("x", 64), ""
	for b := range 95 {
		line += string(rune(32 + b))
	}
	var sixteen []string
	for i := range 16 {
		sixteen = append(sixteen, fmt.Sprint("tag ", 9-i))
	}
	eight := slices.Repeat([]api.Ability{does(gains(whole(5)))}, 8)
	good := []api.Design{
		{Name: long}, {Name: line[:64]}, {Name: line[31:]}, {Name: "~ ~"}, {Tags: []string{""}}, {Tags: []string{long, long[1:]}}, {Tags: []string{line[:64], line[31:]}},
		{Tags: sixteen}, {Name: "a", Tags: []string{"a"}}, {Cost: 1000000000}, {Power: 1000000000}, {Health: 1000000000}, {Able: eight}, {Tags: []string{"b", "a", "ab", ""}},
	}
	bad := []api.Design{
		{Name: long + "x"}, {Name: strings.Repeat("x", 1000)}, {Name: "\x1f"}, {Name: "\x7f"}, {Name: "a\n"}, {Name: "\x00"}, {Name: "\xff"}, {Name: "\u00e4"},
		{Tags: []string{long + "x"}}, {Tags: []string{"a", "\x1f"}}, {Tags: []string{"\x7f", "a"}}, {Tags: []string{"\u00e4"}}, {Tags: []string{"a", "a"}}, {Tags: []string{"", "b", ""}},
		{Tags: append(sixteen, "tag 10")}, {Tags: append(sixteen, "tag 9")}, {Tags: append(sixteen[:15:15], "tag 9")},
		{Cost: -1}, {Power: -1}, {Health: -1}, {Cost: 1000000001}, {Power: 1000000001}, {Health: 1000000001}, {Cost: least}, {Power: most}, {Health: least},
		{Able: append(eight, eight[0])}, {Able: make([]api.Ability, 1)}, {Able: append(eight[:7:7], does(gains(truth())))}, {Able: append([]api.Ability{does(gains(whole(-5)))}, eight[1:]...)},
		{Able: []api.Ability{{On: 5, Slots: eight[0].Slots, Tree: eight[0].Tree}}},
	}
	for _, d := range good {
		wantPack(t, fmt.Sprint(d), []api.Design{d}, 1, api.OK)
		wantPack(t, fmt.Sprint("within others ", d), []api.Design{{Name: "c"}, d, {Tags: []string{"c"}}}, 1, api.OK)
	}
	for _, d := range bad {
		wantPack(t, fmt.Sprint(d), []api.Design{d}, 1, api.ErrArg)
		wantPack(t, fmt.Sprint("last ", d), append(slices.Clone(good), d), 1, api.ErrArg)
		wantPack(t, fmt.Sprint("first ", d), append([]api.Design{d}, good...), 256, api.ErrArg)
	}
}

// filling is designs that want so many ints and so many texts together, whose pools have to be shared by many abilities.
func filling(ints, texts int) []api.Design {
	var l []api.Design
	for n := range 256 {
		d := api.Design{Name: fmt.Sprint("t", n)}
		for i := n; i < texts; i += 256 {
			if i > n {
				d.Tags = append(d.Tags, fmt.Sprint("t", i))
			}
		}
		var s [][]api.Node
		for i := n; i < ints; i += 256 {
			s = append(s, gains(whole(int64(i)*1000003)))
		}
		// Beyond 16 tags texts are asked for.
		for len(d.Tags) > 16 {
			s = append(s, op(api.Node{Op: api.TIf}, asks(d.Tags[16]), block()))
			d.Tags = slices.Delete(d.Tags, 16, 17)
		}
		d.Able = []api.Ability{does(s...)}
		l = append(l, d)
	}
	return l
}

// TestPoolsOfPacks is pools of as many ints or texts as may be, and of one more.
func TestPoolsOfPacks(t *testing.T) {
	for _, c := range []struct {
		ints, texts int
		why         api.Errno
	}{{4095, 300, api.OK}, {4096, 300, api.OK}, {4097, 300, api.ErrSize}, {0, 4096, api.OK}, {0, 4097, api.ErrSize}, {4096, 4096, api.OK}, {4097, 4097, api.ErrSize}, {4096, 4353, api.ErrSize}} {
		l := filling(c.ints, c.texts)
		if i, s := emit.Pools(l); len(i) != c.ints || len(s) != c.texts {
			t.Fatalf("P17.2: %d and %d, not %d and %d", len(i), len(s), c.ints, c.texts)
		}
		wantPack(t, fmt.Sprint(c), l, 256, c.why)
		l[255].Cost = -1
		wantPack(t, fmt.Sprint("one that may not be, ", c), l, 256, api.ErrArg)
		l[255].Cost = 0
		wantPack(t, fmt.Sprint("no cards, ", c), l, 0, api.ErrArg)
	}
	// A repeat and an each bring their 0 and 1 into a pool that is nearly full.
	for loop, bring := range map[string]int{"repeat 0 as i { }": 1, "each c in self.place.cards { }": 1, "repeat 4 as i { }": 2, "draw(me);": 0} {
		for ints := 4093; ints <= 4097; ints++ {
			l := filling(ints, 300)
			l[7].Able = append(l[7].Able, able(t, "on play { "+loop+" }"))
			why := api.OK
			if ints+bring > 4096 {
				why = api.ErrSize
			}
			wantPack(t, fmt.Sprint(ints, " and ", loop), l, 1, why)
		}
	}
}

// TestTagsRise is tags in any order.
func TestTagsRise(t *testing.T) {
	r := rand.New(rand.NewSource(3))
	for range 200 {
		var l []api.Design
		for range 1 + r.Intn(4) {
			d := api.Design{Name: []string{"m", "", "z", "A"}[r.Intn(4)]}
			for _, i := range r.Perm(26)[:r.Intn(17)] {
				d.Tags = append(d.Tags, string(rune('a'+i)))
			}
			l = append(l, d)
		}
		p := wantPack(t, fmt.Sprint(l), l, 9, api.OK)
		for _, k := range p.Kinds {
			if !slices.IsSorted(k.Tags) {
				t.Fatalf("P17.3: tags %v", k.Tags)
			}
		}
	}
}
