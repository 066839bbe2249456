package kinds

import (
	"math"
	"slices"
	"strings"
	"testing"

	"tableau/api"
)

// row is a sign as the document's table has it: its name, what it takes, what it tells; dear, if it costs 1 and n.
type row struct {
	name string
	args []int8
	tell int8
	dear bool
}

// list is one of the three lists: what the document says, and the calls that tell of it.
type list struct {
	what string
	rows []row
	all  func() []Sign
	find func(name string) (int, Sign, bool)
}

func lists() []list {
	card, player, zone, cards, whole := []int8{3}, []int8{4}, []int8{5}, []int8{6}, []int8{1}
	fields := []row{
		{"power", card, 1, false}, {"health", card, 1, false}, {"damage", card, 1, false}, {"marks", card, 1, false},
		{"owner", card, 4, false}, {"place", card, 5, false},
		{"life", player, 1, false}, {"energy", player, 1, false}, {"out", player, 2, false},
		{"size", zone, 1, false}, {"cards", zone, 6, true}, {"holder", zone, 4, false},
		{"count", cards, 1, false},
	}
	funcs := []row{
		{"next", player, 4, false}, {"zone", []int8{4, -1}, 5, false}, {"random", whole, 1, false}, {"top", zone, 3, false},
		{"has", []int8{6, 3}, 2, true}, {"is", []int8{3, -2}, 2, false},
		{"abs", whole, 1, false}, {"min", []int8{1, 1}, 1, false}, {"max", []int8{1, 1}, 1, false},
	}
	effects := []row{
		{"move", []int8{3, 5}, 0, false}, {"put", []int8{3, 5}, 0, false}, {"draw", player, 0, false},
		{"hit", []int8{3, 1}, 0, false}, {"harm", []int8{4, 1}, 0, false}, {"gain", []int8{4, 1}, 0, false},
		{"mark", []int8{3, 1}, 0, false}, {"grow", []int8{3, 1}, 0, false}, {"shuffle", zone, 0, true},
	}
	return []list{{"field", fields, Fields, Field}, {"function", funcs, Funcs, Func}, {"effect", effects, Effects, Effect}}
}

// wantSign holds the sign against the table's row, and what it costs against what the document says.
func wantSign(t *testing.T, promise, what string, got Sign, want row) {
	t.Helper()
	if got.Name != want.name || !slices.Equal(got.Args, want.args) || got.Tell != want.tell {
		t.Errorf("%s: the %s %s: {%s, takes %v, tells %d}, not {takes %v, tells %d}", promise, what, want.name, got.Name, got.Args, got.Tell, want.args, want.tell)
	}
	if got.Gas == nil {
		t.Errorf("%s: the %s %s has no Gas", promise, what, want.name)
		return
	}
	for _, c := range costs() {
		cost := int64(1)
		if want.dear {
			cost = c.dear
		}
		if g := got.Gas(c.n); g != cost {
			t.Errorf("%s: the %s %s: Gas(%d) is %d, not %d", promise, what, want.name, c.n, g, cost)
		}
	}
}

type cost struct {
	n    int
	dear int64
}

// costs is what is done on n cards costs where each of them counts.
func costs() []cost {
	return []cost{
		{math.MinInt, 1}, {-api.MaxBound, 1}, {-3, 1}, {-1, 1}, {0, 1}, {1, 2}, {2, 3}, {7, 8}, {255, 256}, {256, 257}, {1 << 32, 1<<32 + 1},
		{1<<62 - 3, 1<<62 - 2}, {1<<62 - 2, 1<<62 - 1}, {1<<62 - 1, 1 << 62}, {1 << 62, 1 << 62}, {1<<62 + 1, 1 << 62}, {math.MaxInt - 1, 1 << 62}, {math.MaxInt, 1 << 62},
	}
}

func TestLists(t *testing.T) {
	for _, l := range lists() {
		got := l.all()
		if len(got) != len(l.rows) {
			t.Errorf("P12.1: %d signs of a %s, not %d", len(got), l.what, len(l.rows))
			continue
		}
		for i, want := range l.rows {
			wantSign(t, "P12.1", l.what, got[i], want)
		}
	}
}

func TestFound(t *testing.T) {
	for _, l := range lists() {
		for i, want := range l.rows {
			n, s, ok := l.find(want.name)
			if n != i || !ok {
				t.Errorf("P12.2: the %s %s: %d, %v, not %d, true", l.what, want.name, n, ok, i)
			}
			wantSign(t, "P12.2", l.what, s, want)
		}
	}
}

// Names in a memory of their own are found, too: what counts is what they say.
func TestFoundInAnotherMemory(t *testing.T) {
	for _, l := range lists() {
		for i, want := range l.rows {
			b := []byte("(" + want.name + ")")
			if n, _, ok := l.find(string(b)[1 : len(b)-1]); n != i || !ok {
				t.Errorf("P12.2: the %s %s, cut out of a text: %d, %v", l.what, want.name, n, ok)
			}
		}
	}
}

func wantNoSign(t *testing.T, l list, name string) {
	t.Helper()
	if n, s, ok := l.find(name); n != 0 || ok || s.Name != "" || len(s.Args) != 0 || s.Tell != 0 || s.Gas != nil {
		t.Errorf("P12.2: the %s %q: %d, {%s, %v, %d}, %v; there is none", l.what, name, n, s.Name, s.Args, s.Tell, ok)
	}
}

// near is names that are nearly this one: in other letters, cut, with more behind or ahead.
func near(name string) []string {
	return []string{
		strings.ToUpper(name), strings.ToUpper(name[:1]) + name[1:], name[:len(name)-1] + strings.ToUpper(name[len(name)-1:]),
		name[:len(name)-1], name[1:], name + "s", name + " ", " " + name, name + "_", name + "0", name + "\x00", "\x00" + name, name + name, name + "(", "." + name,
	}
}

// others is names that are none of the lists', nor an event or a zone; the last ones are no names at all.
func others() []string {
	return []string{"", " ", "a", "x", "none", "int", "bool", "player", "list", "kind", "end", "self", "me", "card", "when", "true", "abort", "wings", "wave", "exile", "start",
		"-1", "0", "10", "\x00", "\xff", "\xff\xfe", "ä", strings.Repeat("p", 33), strings.Repeat("power", 1<<16)}
}

func TestNotFound(t *testing.T) {
	all := lists()
	for _, l := range all {
		own := func(name string) bool {
			return slices.ContainsFunc(l.rows, func(r row) bool { return r.name == name })
		}
		var names []string
		for _, m := range all {
			for _, r := range m.rows {
				names = append(names, r.name)
				names = append(names, near(r.name)...)
			}
		}
		names = append(names, others()...)
		names = append(names, "play", "die", "turn", "deck", "hand", "board", "grave", "mark", "marks")
		for _, name := range names {
			if !own(name) {
				wantNoSign(t, l, name)
			}
		}
	}
}

// numberedWords is a list of words with the call that tells their numbers.
type numberedWords struct {
	what  string
	words []string
	find  func(name string) (int, bool)
}

func TestEventsAndZones(t *testing.T) {
	events := numberedWords{"event", []string{"play", "die", "hit", "turn", "draw"}, Event}
	zones := numberedWords{"zone", []string{"deck", "hand", "board", "grave"}, Zone}
	for _, l := range []numberedWords{events, zones} {
		names := others()
		for i, w := range l.words {
			if n, ok := l.find(w); n != i || !ok {
				t.Errorf("P12.3: the %s %s: %d, %v, not %d, true", l.what, w, n, ok, i)
			}
			names = append(names, near(w)...)
		}
		for _, m := range lists() {
			for _, r := range m.rows {
				names = append(names, r.name)
			}
		}
		names = append(append(names, events.words...), zones.words...)
		for _, name := range names {
			if slices.Contains(l.words, name) {
				continue
			}
			if n, ok := l.find(name); n != 0 || ok {
				t.Errorf("P12.3: the %s %q: %d, %v; there is none", l.what, name, n, ok)
			}
		}
	}
}

func TestWords(t *testing.T) {
	words := strings.Fields("card cost power health tag on when let if else repeat as each in choose stop abort true false self me deck hand board grave play die hit turn draw")
	var names []string
	for _, w := range words {
		if !Word(w) {
			t.Errorf("P12.3: %s is a word", w)
		}
		names = append(names, near(w)...)
	}
	for _, l := range lists() {
		for _, r := range l.rows {
			names = append(names, r.name)
		}
	}
	for _, name := range append(names, others()...) {
		if want := slices.Contains(words, name); Word(name) != want {
			t.Errorf("P12.3: Word(%q): %v", name, !want)
		}
	}
}

func TestKinds(t *testing.T) {
	names := []string{"none", "int", "bool", "card", "player", "zone", "list"}
	for k := math.MinInt8; k <= math.MaxInt8; k++ {
		want := ""
		if k >= 0 && k < len(names) {
			want = names[k]
		}
		if got := Kind(int8(k)); got != want {
			t.Errorf("P12.4: Kind(%d): %q, not %q", k, got, want)
		}
	}
}

// What follows, out of the calls alone.
func TestEachSignIsFoundByItsName(t *testing.T) {
	for _, l := range lists() {
		seen := map[string]bool{}
		for i, s := range l.all() {
			if seen[s.Name] {
				t.Errorf("P12.1: two of the %ss have the name %s", l.what, s.Name)
			}
			seen[s.Name] = true
			n, found, ok := l.find(s.Name)
			if n != i || !ok || found.Name != s.Name || !slices.Equal(found.Args, s.Args) || found.Tell != s.Tell {
				t.Errorf("P12.2: the %s %s: %d, %v, %v; in the list it is %d, %v", l.what, s.Name, n, found.Args, ok, i, s.Args)
			}
			for _, c := range costs() {
				if s.Gas(c.n) < 1 || s.Gas(c.n) != found.Gas(c.n) {
					t.Errorf("P12.1: the %s %s: Gas(%d) is %d and %d", l.what, s.Name, c.n, s.Gas(c.n), found.Gas(c.n))
				}
			}
		}
	}
}

func TestOneNameMeansOneThing(t *testing.T) {
	for _, l := range lists() {
		for _, s := range l.all() {
			_, _, field := Field(s.Name)
			_, _, function := Func(s.Name)
			_, _, effect := Effect(s.Name)
			_, event := Event(s.Name)
			_, zone := Zone(s.Name)
			n := 0
			for _, b := range []bool{field, function, effect, event, zone} {
				if b {
					n++
				}
			}
			if both := s.Name == "hit" || s.Name == "draw"; both != (effect && event) || n > 2 || n == 2 && !both {
				t.Errorf("P12.2: %s: field %v, function %v, effect %v, event %v, zone %v", s.Name, field, function, effect, event, zone)
			}
		}
	}
}
