package check

import (
	"strconv"
	"strings"
	"testing"

	"tableau/api"
)

// sheet: a source with as many abilities and cards as its statements need.
type sheet struct {
	cards, ons, statements int
	text                   strings.Builder
}

func (s *sheet) add(statement string) {
	if s.statements == 300 {
		s.text.WriteString("} ")
		s.statements = 0
		s.ons++
	}
	if s.ons == 8 {
		s.text.WriteString("} ")
		s.ons = 0
	}
	if s.statements == 0 && s.ons == 0 {
		s.cards++
		s.text.WriteString(`card "` + strconv.Itoa(s.cards) + `"{`)
	}
	if s.statements == 0 {
		s.text.WriteString("on play{")
	}
	s.text.WriteString(statement)
	s.statements++
}

func (s *sheet) whole(behind string) string {
	return s.text.String() + "}}" + behind
}

// numbers is a source that has so many ints, from the first one on.
func numbers(from, many int, behind string) string {
	s := &sheet{}
	for i := range many {
		s.add("gain(me," + strconv.Itoa(from+i) + ");")
	}
	return s.whole(behind)
}

// holdPool holds that the tree is taken, or refused for its pools.
func holdPool(t *testing.T, what string, l []api.Node, fits bool) {
	t.Helper()
	d, why, at := Pack(l)
	if fits && (why != api.OK || at != 0 || len(d) != l[0].Kids) || !fits && (why != api.ErrSize || at != 0 || d != nil) {
		t.Errorf("P13.1: %s: %d designs, %d at %d", what, len(d), why, at)
	}
	if moved, _ := elsewhere(l); !fits {
		wantRefused(t, what+" (elsewhere)", moved, api.ErrSize, 0)
	}
}

func TestHowManyInts(t *testing.T) {
	card := func(statements string) string { return ` card "B" { on play { ` + statements + ` } }` }
	each := "each c in " + list + " { }"
	for _, x := range []struct {
		what       string
		from, many int
		behind     string
		fits       bool
	}{
		{"4096 ints", 0, 4096, "", true}, {"4097 ints", 0, 4097, "", false}, {"4095 ints, some twice", 2, 4095, card("gain(me, 7); gain(me, 8); gain(me, 4096);"), true}, {"4096 ints, some twice", 0, 4096, card("gain(me, 7); let x = 4095 + 0;"), true},
		{"4096 ints and one in a condition", 0, 4096, ` card "B" { on die when 4096 < 5 { } }`, false}, {"4096 ints and one of them in a condition", 0, 4096, ` card "B" { on die when 4095 < 5 { } }`, true},
		// What cards say of themselves is none of them.
		{"4096 ints and cards' numbers", 0, 4096, ` card "B" { cost 5000; power 5001; health 5002; on draw { } }`, true},
		{"4093 ints, a repeat's, 0 and 1", 300, 4093, card("repeat 9 as i { }"), true}, {"4094 ints, a repeat's, 0 and 1", 300, 4094, card("repeat 9 as i { }"), false},
		{"4094 ints and a repeat of 1", 300, 4094, card("repeat 1 as i { }"), true}, {"4095 ints and a repeat of 1", 300, 4095, card("repeat 1 as i { }"), false}, {"4094 ints and a repeat of 0", 300, 4094, card("repeat 0 as i { }"), true}, {"4095 ints and a repeat of 0", 300, 4095, card("repeat 0 as i { }"), false},
		{"4095 ints with 1, and a repeat of one of them", 1, 4095, card("repeat 255 as i { }"), true}, {"4096 ints with 1, and a repeat of one of them", 1, 4096, card("repeat 255 as i { }"), false}, {"4096 ints with 0 and 1, and a repeat of one of them", 0, 4096, card("repeat 255 as i { }"), true}, {"4096 ints from 1, a repeat of 0", 1, 4096, card("repeat 0 as i { }"), false},
		{"4094 ints and an each", 2, 4094, card(each), true}, {"4095 ints and an each", 2, 4095, card(each), false}, {"4095 ints with 1 and an each", 1, 4095, card(each), true}, {"4096 ints with 1 and an each", 1, 4096, card(each), false}, {"4096 ints with 0 and 1 and an each", 0, 4096, card(each), true},
		{"4094 ints, two eaches and repeats", 2, 4094, card(each + each + "repeat 7 as i { repeat 8 as j { } }"), true},
		{"4096 ints without 0 and 1, and a choose", 2, 4096, card("choose c in " + list + " { }"), true}, {"4096 ints without 0 and 1, and words of zones", 2, 4096, card("let a = zone(me, deck); let b = zone(me, hand);"), true},
	} {
		holdPool(t, x.what, parsed(t, numbers(x.from, x.many, x.behind)), x.fits)
	}
	src, at := unmarked(t, numbers(0, 4097, ` card "B" { on play { @wave(); } }`))
	wantRefused(t, "4097 ints, and a fault in the last card", parsed(t, src), api.ErrCall, at)
	src, at = unmarked(t, numbers(0, 4097, ` @card "1" { }`))
	wantRefused(t, "4097 ints, and a name twice", parsed(t, src), api.ErrTwice, at)
}

// tagged is a source that has so many texts, as its cards' names and tags.
func tagged(many int, behind string) string {
	var b strings.Builder
	for i := range many {
		if i%17 == 0 {
			b.WriteString(`card "` + strconv.Itoa(i) + `"{`)
		} else {
			b.WriteString(`tag"` + strconv.Itoa(i) + `";`)
		}
		if i%17 == 16 || i == many-1 {
			b.WriteString("}")
		}
	}
	return b.String() + behind
}

func TestHowManyTexts(t *testing.T) {
	for _, x := range []struct {
		what   string
		many   int
		behind string
		fits   bool
	}{
		{"4096 texts", 4096, "", true}, {"4097 texts", 4097, "", false}, {"4095 texts and a card", 4095, ` card "B" { }`, true}, {"4096 texts and a card", 4096, ` card "B" { }`, false},
		{"4096 texts and a card with the name of a tag", 4096, ` card "1" { }`, true}, {"4095 texts, a card with a tag of its name", 4095, ` card "B" { tag "B"; }`, true}, {"4095 texts, a card with a tag", 4095, ` card "B" { tag "b"; }`, false},
		{"4096 texts and tags of them", 4096, ` card "1" { tag "0"; tag "1"; tag "4095"; }`, true}, {"4096 texts and another tag", 4096, ` card "1" { tag "0"; tag "4096"; }`, false},
		{"4096 texts and one of them as an argument", 4096, ` card "1" { on play when is(self, "7") { let x = is(self, "0"); } }`, true}, {"4096 texts and another one as an argument", 4096, ` card "1" { on play when is(self, "B") { } }`, false}, {"4095 texts and one as an argument, twice", 4095, ` card "1" { on play when is(self, "B") { let x = is(self, "B"); } }`, true}, {"4096 texts and the empty one as an argument", 4096, ` card "1" { on play { if is(self, "") { } } }`, false},
		// The names of variables, fields and effects are none of them.
		{"4096 texts, and names", 4096, ` card "1" { on play { let xyz = self.power; hit(self, min(xyz, 1)); } }`, true},
	} {
		holdPool(t, x.what, parsed(t, tagged(x.many, x.behind)), x.fits)
	}
	src, at := unmarked(t, tagged(4097, ` card "1" { on play { @wave(); } }`))
	wantRefused(t, "4097 texts, and a fault in the last card", parsed(t, src), api.ErrCall, at)
}

// The ints and the texts are counted each for themselves.
func TestHowManyOfBoth(t *testing.T) {
	both := func(ints, texts int) []api.Node {
		l, more := parsed(t, tagged(texts, "")), parsed(t, numbers(0, ints, ""))
		l[0].Kids += more[0].Kids
		return append(l, more[1:]...)
	}
	holdPool(t, "4096 ints and 4096 texts", both(4096, 4096), true)
	holdPool(t, "4097 ints and 4096 texts", both(4097, 4096), false)
	holdPool(t, "4096 ints and 4097 texts", both(4096, 4097), false)
	holdPool(t, "4097 ints and 4097 texts", both(4097, 4097), false)
}
