package emit_test

import (
	"fmt"
	"math/rand"
	"slices"
	"sort"
	"strings"
	"testing"

	"tableau/api"
	"tableau/emit"
)

// poolsOf is the pools of the designs, by the document's words.
func poolsOf(l []api.Design) ([]int64, []string) {
	var ints []int64
	var texts []string
	for _, d := range l {
		texts = append(append(texts, d.Name), d.Tags...)
		for _, a := range d.Able {
			i, s := wantsOf(a.Tree)
			ints, texts = append(ints, i...), append(texts, s...)
		}
	}
	sort.Slice(ints, func(i, j int) bool { return ints[i] < ints[j] })
	sort.Slice(texts, func(i, j int) bool { return strings.Compare(texts[i], texts[j]) < 0 })
	return slices.Compact(ints), slices.Compact(texts)
}

// wantsOf is the ints and the texts that the nodes want, as often as they do.
func wantsOf(l []api.Node) (ints []int64, texts []string) {
	for _, n := range l {
		if n.Op == api.TNum || n.Op == api.TRepeat {
			ints = append(ints, n.N)
		}
		if n.Op == api.TRepeat || n.Op == api.TEach {
			ints = append(ints, 0, 1)
		}
		if n.Op == api.TText {
			texts = append(texts, n.Text)
		}
	}
	return ints, texts
}

// wantPools says that the designs' pools are these.
func wantPools(t *testing.T, what string, l []api.Design, ints []int64, texts []string) {
	t.Helper()
	i, s := emit.Pools(l)
	if !slices.Equal(i, ints) || !slices.Equal(s, texts) {
		t.Errorf("P17.2: %.500s: %.500v %.500q, not %.500v %.500q", what, i, s, ints, texts)
	}
	if i, s := poolsOf(l); !slices.Equal(i, ints) || !slices.Equal(s, texts) {
		t.Errorf("P17.2: %.500s: the account is %.500v %.500q, not %.500v %.500q", what, i, s, ints, texts)
	}
}

func TestPools(t *testing.T) {
	wantPools(t, "no designs", nil, nil, nil)
	wantPools(t, "an empty design", make([]api.Design, 1), nil, []string{""})
	wantPools(t, "empty designs", make([]api.Design, 3), nil, []string{""})
	wantPools(t, "the document's", designs(t, `card "Fox" { tag "beast"; on play { mark(self, 5); } on play { if 1 < 5 || false { } else { abort; } } on play { repeat 5 as i { } } on play { if is(self, "beast") != true { } } }`), []int64{0, 1, 5}, []string{"Fox", "beast"})
	wantPools(t, "numbers of a card", designs(t, `card "a" { cost 7; power 8; health 9; }`), nil, []string{"a"})
	wantPools(t, "a condition", designs(t, `card "a" { on play when 3 < 2 || is(self, "b") { } }`), []int64{2, 3}, []string{"a", "b"})
	wantPools(t, "a repeat", designs(t, `card "a" { on play { repeat 9 as i { } } }`), []int64{0, 1, 9}, []string{"a"})
	wantPools(t, "an each", designs(t, `card "a" { on play { each c in self.place.cards { } } }`), []int64{0, 1}, []string{"a"})
	wantPools(t, "a choose, words, a field and a slot", designs(t, `card "a" { on play { let x = zone(me, grave); choose c in x.cards { } } }`), nil, []string{"a"})
	wantPools(t, "several cards", designs(t, `card "z" { tag "b"; on play { gain(me, 4); } on die { gain(me, 2); } } card "b" { tag "z"; tag "a"; on hit { gain(me, 4); gain(me, 3); } }`), []int64{2, 3, 4}, []string{"a", "b", "z"})
}

// TestPoolsOfAnything is designs that may not be, abilities whose lists are no trees.
func TestPoolsOfAnything(t *testing.T) {
	num := func(l ...int64) []api.Node {
		var nodes []api.Node
		for _, n := range l {
			nodes = append(nodes, api.Node{Op: api.TNum, N: n, M: 77, Text: "no", Kids: 5, At: -3, Kind: 99})
		}
		return nodes
	}
	wants := func(l ...api.Node) []api.Design {
		return []api.Design{{Cost: -5, Tags: []string{"t", "t"}, Able: []api.Ability{{On: 77, Tree: l}}}}
	}
	wantPools(t, "both ends", wants(num(most, 0, least, -1, 1, least+1, most-1, most, least)...), []int64{least, least + 1, -1, 0, 1, most - 1, most}, []string{"", "t"})
	wantPools(t, "a repeat of rounds below 0", wants(api.Node{Op: api.TRepeat, N: -9, M: 3, Kids: -1}), []int64{-9, 0, 1}, []string{"", "t"})
	wantPools(t, "a repeat of many rounds", wants(api.Node{Op: api.TRepeat, N: most}), []int64{0, 1, most}, []string{"", "t"})
	wantPools(t, "an each with numbers", wants(api.Node{Op: api.TEach, N: 5, M: 6, Text: "x"}), []int64{0, 1}, []string{"", "t"})
	wantPools(t, "texts", wants(api.Node{Op: api.TText, Text: "\xff\x00", N: 4}, api.Node{Op: api.TText}, api.Node{Op: api.TText, Text: strings.Repeat("a", 1000)}), nil, []string{"", strings.Repeat("a", 1000), "t", "\xff\x00"})
	var others []api.Node
	for op := -128; op < 128; op++ {
		n := api.Node{Op: int8(op), N: int64(op) + 1000, M: 5, Text: "other", Kids: op}
		if n.Op != api.TNum && n.Op != api.TRepeat && n.Op != api.TEach && n.Op != api.TText {
			others = append(others, n)
		}
	}
	wantPools(t, "all other nodes", wants(others...), nil, []string{"", "t"})
	many := make([]api.Design, 300)
	for i := range many {
		many[i] = api.Design{Name: "same", Tags: []string{"same", "also"}, Able: []api.Ability{{Tree: num(5, 5, 4)}, {}, {Tree: num(4)}}}
	}
	wantPools(t, "the same ones many times", many, []int64{4, 5}, []string{"also", "same"})
}

// TestPoolsRise is ints and texts that are near to one another, in all orders.
func TestPoolsRise(t *testing.T) {
	r := rand.New(rand.NewSource(1))
	texts := []string{"", " ", "A", "AA", "B", "Z", "a", "a ", "aA", "aa", "aaa", "ab", "b", "~", "\x7f", "\xc3\xa4", "\xff"}
	ints := []int64{least, -256, -2, -1, 0, 1, 2, 9, 10, 255, 256, 1 << 32, most}
	for range 200 {
		d := make([]api.Design, 3)
		for _, i := range r.Perm(len(texts)) {
			switch x := &d[r.Intn(3)]; {
			case x.Name == "" && r.Intn(2) == 0:
				x.Name = texts[i]
			case r.Intn(2) == 0:
				x.Tags = append(x.Tags, texts[i])
			default:
				x.Able = append(x.Able, api.Ability{Tree: []api.Node{{Op: api.TText, Text: texts[i]}}})
			}
		}
		for _, i := range r.Perm(len(ints)) {
			x := &d[r.Intn(3)]
			x.Able = append(x.Able, api.Ability{Tree: []api.Node{{Op: api.TNum, N: ints[i]}}})
		}
		i, s := poolsOf(d)
		wantPools(t, fmt.Sprint(d), d, i, s)
	}
}

// TestManyInPools is pools that are greater than a pack's may be.
func TestManyInPools(t *testing.T) {
	var d api.Design
	var ints []int64
	texts := []string{""}
	for i := range 10000 {
		ints = append(ints, int64(i-5000))
		texts = append(texts, fmt.Sprintf("t%05d", i))
		d.Able = append(d.Able, api.Ability{Tree: []api.Node{{Op: api.TNum, N: int64(4999 - i)}}})
		d.Tags = append(d.Tags, fmt.Sprintf("t%05d", (i*7)%10000))
	}
	wantPools(t, "many", []api.Design{d}, ints, texts)
}

// count is so many ints from that one on.
func count(from, many int64) []int64 {
	var l []int64
	for i := range many {
		l = append(l, from+i)
	}
	return l
}

// TestLastPlaces is what is wanted at the last place that counts, and behind it.
func TestLastPlaces(t *testing.T) {
	a := does(gains(whole(5)), op(api.Node{Op: api.TIf}, asks("x"), block()))
	full := count(100, 4095)
	var names []string
	for _, n := range count(0, 4095) {
		names = append(names, fmt.Sprint("n", n))
	}
	good, want := append(slices.Clone(full), 5, 5, 6), append(slices.Clone(names), "x", "x", "y")
	wantCode(t, "the last places", a, good, want, accountOf(a, good, want))
	b, _ := emit.Able(a, good, want)
	if told(b) != "0 load 1, 2 push 4095, 5 do 5, 7 load 0, 9 is 4095, 12 unless 15, 15 stop" {
		t.Errorf("P17.1: the last places: %s", told(b))
	}
	wantRefused(t, "an int behind the last place", a, slices.Concat(full, []int64{6, 5}), want, api.ErrPool)
	wantRefused(t, "a text behind the last place", a, good, slices.Concat(names, []string{"y", "x"}), api.ErrPool)
	wantRefused(t, "an int behind the last place, the places ahead all the same", a, append(make([]int64, 4096), 5), want, api.ErrPool)
	wantRefused(t, "a text behind the last place, the places ahead all the same", a, good, append(make([]string, 4096), "x"), api.ErrPool)
	same, blank := append(make([]int64, 4095), 5), append(make([]string, 4095), "x")
	wantCode(t, "the last places, the others all the same", a, same, blank, accountOf(a, same, blank))
	long := append(count(1, 10000), 5)
	wantCode(t, "more than the first ones", a, long, append(want, names...), accountOf(a, long, want))
}

// TestWanted is what each kind of node wants, one of it missing at a time.
func TestWanted(t *testing.T) {
	for line, wants := range map[string][]int64{
		"gain(me, 7);":                   {7},
		"gain(me, 7 + 8 * 9);":           {7, 8, 9},
		"repeat 5 as i { }":              {0, 1, 5},
		"repeat 1 as i { }":              {0, 1},
		"repeat 0 as i { }":              {0, 1},
		"repeat 5 as i { gain(me, 0); }": {0, 1, 5},
		"each c in self.place.cards { }": {0, 1},
		"each c in self.place.cards { hit(c, 9223372036854775807); }": {0, 1, most},
		"choose c in self.place.cards { }":                            {},
		"let x = zone(me, board);":                                    {},
		"let x = self; x = self; draw(me);":                           {},
		"if me.life < 3 { }":                                          {3},
	} {
		for _, a := range []api.Ability{able(t, "on play { "+line+" }"), able(t, "on play { stop; if true { } else { "+line+" } abort; }")} {
			wantCode(t, line, a, wants, nil, accountOf(a, wants, nil))
			for i := range wants {
				less := slices.Delete(slices.Clone(wants), i, i+1)
				wantRefused(t, fmt.Sprint(line, " without ", wants[i]), a, less, []string{"x"}, api.ErrPool)
				wantRefused(t, fmt.Sprint(line, " without ", wants[i]), a, append(less, -wants[i]-1), nil, api.ErrPool)
			}
		}
	}
	a := able(t, `on play when is(self, "a") { if is(self, "b") && is(self, "") { } }`)
	wants := []string{"b", "", "a"}
	wantCode(t, "texts", a, nil, wants, accountOf(a, nil, wants))
	for i := range wants {
		wantRefused(t, "a text less", a, []int64{0, 1}, slices.Delete(slices.Clone(wants), i, i+1), api.ErrPool)
	}
	wantRefused(t, "another text", a, nil, []string{"b", "", "a "}, api.ErrPool)
	wantRefused(t, "no texts", a, nil, nil, api.ErrPool)
}

// TestAnyOrder is ints and texts in any order, some of them twice: the first place counts.
func TestAnyOrder(t *testing.T) {
	r := rand.New(rand.NewSource(2))
	a := able(t, `on play when is(self, "a") || is(self, "b") || is(self, "") { repeat 5 as i { gain(me, 9223372036854775807 + 2 + i); } each c in self.place.cards { hit(c, 2); } }`)
	for range 300 {
		ints, texts := []int64{0, 1, 2, 5, most}, []string{"", "a", "b"}
		for range r.Intn(20) {
			ints = append(ints, int64(r.Intn(12)-3))
			texts = append(texts, []string{"", "a", "b", "ab", "\xff"}[r.Intn(5)])
		}
		r.Shuffle(len(ints), func(i, j int) { ints[i], ints[j] = ints[j], ints[i] })
		r.Shuffle(len(texts), func(i, j int) { texts[i], texts[j] = texts[j], texts[i] })
		wantCode(t, fmt.Sprint(ints, texts), a, ints, texts, accountOf(a, ints, texts))
	}
}
