package parse

import (
	"maps"
	"math/rand"
	"slices"
	"strings"
	"testing"

	"tableau/api"
	"tableau/tokens"
	"tableau/tree"
)

// writer: makes packs by chance, their tokens with places of all sorts, and their trees.
type writer struct {
	*rand.Rand
	list     []api.Token
	sap      int
	needless int // of so many parentheses one that is not needed, or none
}

func (w *writer) put(t api.Token) int {
	t.At = w.Intn(1 << 20)
	w.list = append(w.list, t)
	return t.At
}

func (w *writer) mark(s string) int { return w.put(api.Token{Kind: api.TkMark, Text: s}) }

func (w *writer) word(s string) int { return w.put(api.Token{Kind: api.TkName, Text: s}) }

func (w *writer) number() (n int64, at int) {
	n = w.Int63() >> w.Intn(64)
	return n, w.put(api.Token{Kind: api.TkNum, Num: n})
}

func (w *writer) text() (s string, at int) {
	s = w.pick("", "x", "if", "(", "\"~ \\", "Fox")
	return s, w.put(api.Token{Kind: api.TkText, Text: s})
}

func (w *writer) pick(l ...string) string { return l[w.Intn(len(l))] }

func (w *writer) name(also ...string) (s string, at int) {
	s = w.pick(append(also, "x", "y", "a1_Z", "zone", "cards")...)
	return s, w.word(s)
}

func above(n api.Node, kids ...[]api.Node) []api.Node {
	n.Kids = len(kids)
	return append([]api.Node{n}, slices.Concat(kids...)...)
}

func (w *writer) several(most int, one func() []api.Node) [][]api.Node {
	var l [][]api.Node
	for range w.Intn(most + 1) {
		if w.sap > 0 {
			l = append(l, one())
		}
	}
	return l
}

func (w *writer) pack() []api.Node {
	cards := w.several(3, w.card)
	w.put(api.Token{})
	return above(api.Node{Op: api.TPack, At: w.list[0].At}, cards...)
}

func (w *writer) card() []api.Node {
	n := api.Node{Op: api.TCard, At: w.word("card")}
	n.Text, _ = w.text()
	w.mark("{")
	lines := w.several(4, w.line)
	w.mark("}")
	return above(n, lines...)
}

func (w *writer) line() []api.Node {
	w.sap--
	kind := w.Intn(9)
	if kind >= 4 {
		return w.on()
	}
	n := api.Node{Op: api.TCost + int8(kind), At: w.word([]string{"cost", "power", "health", "tag"}[kind])}
	if kind == 3 {
		n.Text, _ = w.text()
	} else {
		n.N, _ = w.number()
	}
	w.mark(";")
	return above(n)
}

func (w *writer) on() []api.Node {
	n := api.Node{Op: api.TOn, At: w.word("on"), N: int64(w.Intn(5))}
	w.word([]string{"play", "die", "hit", "turn", "draw"}[n.N])
	if w.Intn(2) == 0 {
		return above(n, w.block())
	}
	w.word("when")
	when := w.expr(1)
	return above(n, when, w.block())
}

func (w *writer) block() []api.Node {
	n := api.Node{Op: api.TBlock, At: w.mark("{")}
	l := w.several(4, w.statement)
	w.mark("}")
	return above(n, l...)
}

func (w *writer) statement() []api.Node {
	w.sap--
	switch w.Intn(9) {
	case 0:
		n := api.Node{Op: api.TLet, At: w.word("let")}
		n.Text, _ = w.name()
		return w.assigned(n)
	case 1:
		s, at := w.name("self", "me")
		return w.assigned(api.Node{Op: api.TSet, Text: s, At: at})
	case 2:
		return w.ifs()
	case 3:
		n := api.Node{Op: api.TRepeat, At: w.word("repeat")}
		n.N, _ = w.number()
		w.word("as")
		n.Text, _ = w.name()
		return above(n, w.block())
	case 4:
		return above(w.overList(api.TEach, "each"))
	case 5:
		return w.choose()
	case 6:
		i := w.Intn(2)
		n := api.Node{Op: api.TStop + int8(i), At: w.word([]string{"stop", "abort"}[i])}
		w.mark(";")
		return above(n)
	}
	s, at := w.name("hit", "draw")
	l := w.listed(func() []api.Node { return w.expr(1) })
	w.mark(";")
	return above(api.Node{Op: api.TDo, Text: s, At: at}, l...)
}

func (w *writer) assigned(n api.Node) []api.Node {
	w.mark("=")
	e := w.expr(1)
	w.mark(";")
	return above(n, e)
}

func (w *writer) ifs() []api.Node {
	w.sap--
	n := api.Node{Op: api.TIf, At: w.word("if")}
	kids := [][]api.Node{w.expr(1), w.block()}
	kind := w.Intn(3)
	if kind > 0 {
		w.word("else")
	}
	if kind == 1 {
		kids = append(kids, w.block())
	} else if kind == 2 {
		kids = append(kids, w.ifs())
	}
	return above(n, kids...)
}

func (w *writer) overList(op int8, word string) (api.Node, []api.Node, []api.Node) {
	n := api.Node{Op: op, At: w.word(word)}
	n.Text, _ = w.name()
	w.word("in")
	list := w.expr(1)
	return n, list, w.block()
}

func (w *writer) choose() []api.Node {
	n, list, block := w.overList(api.TChoose, "choose")
	if w.Intn(2) == 0 {
		return above(n, list, block)
	}
	w.word("else")
	return above(n, list, block, w.block())
}

func (w *writer) listed(one func() []api.Node) [][]api.Node {
	w.mark("(")
	first := true
	l := w.several(3, func() []api.Node {
		if !first {
			w.mark(",")
		}
		first = false
		return one()
	})
	w.mark(")")
	return l
}

func (w *writer) argument() []api.Node {
	switch w.Intn(5) {
	case 0:
		i := w.Intn(4)
		return above(api.Node{Op: api.TWord, N: int64(i), At: w.word([]string{"deck", "hand", "board", "grave"}[i])})
	case 1:
		s, at := w.text()
		return above(api.Node{Op: api.TText, Text: s, At: at})
	}
	return w.expr(1)
}

// between is a mark that stands between two: its own rank, those that it wants at its left and its right.
type between struct {
	mark              string
	rank, left, right int
}

func betweens() []between {
	l := []between{{"||", 1, 1, 2}, {"&&", 2, 2, 3}}
	for _, s := range []string{"==", "!=", "<", "<=", ">", ">="} {
		l = append(l, between{s, 4, 5, 5})
	}
	return append(l, between{"+", 5, 5, 6}, between{"-", 5, 5, 6}, between{"*", 6, 6, 7}, between{"/", 6, 6, 7}, between{"%", 6, 6, 7})
}

// ranked writes an expression of its rank where another one is wanted, in parentheses if it must stand in such, or by chance.
func (w *writer) ranked(rank, wanted int, one func() []api.Node) []api.Node {
	if rank >= wanted && (w.needless == 0 || w.Intn(w.needless) > 0) {
		return one()
	}
	w.mark("(")
	e := one()
	w.mark(")")
	return e
}

func (w *writer) expr(wanted int) []api.Node {
	w.sap--
	kind := w.Intn(10)
	if w.sap < 0 {
		kind = 0
	}
	switch kind {
	case 0, 1:
		return w.ranked(8, wanted, w.item)
	case 2:
		return w.ranked(3, wanted, func() []api.Node {
			n := api.Node{Op: api.TNot, At: w.mark("!")}
			return above(n, w.expr(3))
		})
	case 3:
		return w.ranked(7, wanted, func() []api.Node {
			n := api.Node{Op: api.TNeg, At: w.mark("-")}
			return above(n, w.expr(7))
		})
	case 4:
		return w.ranked(8, wanted, func() []api.Node {
			e := w.expr(8)
			w.mark(".")
			s, at := w.name(allWords()...)
			return above(api.Node{Op: api.TField, Text: s, At: at}, e)
		})
	}
	i := w.Intn(len(betweens()))
	b := betweens()[i]
	return w.ranked(b.rank, wanted, func() []api.Node {
		left := w.expr(b.left)
		n := api.Node{Op: api.TOr + int8(i), At: w.mark(b.mark)}
		return above(n, left, w.expr(b.right))
	})
}

func (w *writer) item() []api.Node {
	switch w.Intn(5) {
	case 0:
		n, at := w.number()
		return above(api.Node{Op: api.TNum, N: n, At: at})
	case 1:
		i := w.Intn(2)
		return above(api.Node{Op: api.TTrue + int8(i), At: w.word([]string{"true", "false"}[i])})
	case 2:
		s, at := w.name()
		return above(api.Node{Op: api.TCall, Text: s, At: at}, w.listed(w.argument)...)
	}
	s, at := w.name("self", "me")
	return above(api.Node{Op: api.TName, Text: s, At: at})
}

func newWriter(seed int64) *writer { return &writer{Rand: rand.New(rand.NewSource(seed))} }

// anew writes another pack; every second one with needless parentheses.
func (w *writer) anew(i, sap int) []api.Node {
	w.list, w.sap, w.needless = nil, sap, 0
	if i%2 == 1 {
		w.needless = 5
	}
	return w.pack()
}

func TestPacksByChance(t *testing.T) {
	w := newWriter(10)
	tooDeep, deepTrees := 0, 0
	for i := range 2000 {
		want := w.anew(i, i%300)
		got, e, most := holdVerdict(t, "pack", w.list)
		if e != api.OK {
			if e != api.ErrDepth {
				t.Fatalf("P10.1: %s: the tests' own pack is none", shown(w.list))
			}
			tooDeep++
			continue
		}
		if !slices.Equal(got, want) {
			t.Fatalf("P10.1: %s: %s, not %s", shown(w.list), text(got), text(want))
		}
		why, _ := tree.Check(got)
		if w.needless == 0 && (why != api.OK || tree.Depth(got) != most) {
			t.Fatalf("P10.1: %s: the tree has the depth %d, %d; not %d", shown(w.list), tree.Depth(got), why, most)
		}
		if why == api.ErrTree {
			t.Fatalf("P10.1: %s: %s is no tree", shown(w.list), text(got))
		}
		deepTrees = max(deepTrees, most)
	}
	if deepTrees < 10 {
		t.Errorf("the packs by chance are too flat: %d, and %d too deep", deepTrees, tooDeep)
	}
}

// TestPacksWithAFault: a token of a pack is another one, left out, put in, or changes its place with the next one; or the list ends there.
func TestPacksWithAFault(t *testing.T) {
	w := newWriter(100)
	all := allTokens()
	var others []api.Token
	for _, what := range slices.Sorted(maps.Keys(all)) {
		if what != "end" {
			others = append(others, all[what])
		}
	}
	faults := 0
	for i := range 6000 {
		w.anew(i, 3+i%60)
		l := w.list
		at := w.Intn(len(l))
		other := others[w.Intn(len(others))]
		other.At = 1 << 21
		end := l[len(l)-1]
		switch kind := w.Intn(5); {
		case kind == 0 || at == len(l)-1:
			l = slices.Insert(slices.Clone(l), at, other)
		case kind == 1:
			l[at] = other
		case kind == 2:
			l = slices.Delete(slices.Clone(l), at, at+1)
		case kind == 3 && at+2 < len(l):
			l[at], l[at+1] = l[at+1], l[at]
		default:
			l = append(slices.Clone(l[:at]), end)
		}
		n, e, _ := holdVerdict(t, "pack", l)
		if e != api.OK {
			faults++
		} else if why, place := tree.Check(n); why == api.ErrTree {
			t.Fatalf("P10.1: %s: no tree, at %d", shown(l), place)
		}
	}
	if faults < 3000 {
		t.Errorf("too few of the packs have a fault: %d", faults)
	}
}

// TestDeepListsByChance: lists that go on, by chance, with but a few of the tokens, so that much is opened of what these open.
func TestDeepListsByChance(t *testing.T) {
	r := rand.New(rand.NewSource(1000))
	all := some("! - f . + * / && || , == ) )")
	whys := map[api.Errno]int{}
	for range 400 {
		few := some("a ( a")
		for range 1 + r.Intn(3) {
			few = append(few, all[r.Intn(len(all))])
		}
		var l []api.Token
		for m := newModel("expr"); len(l) < 300 && m != nil; {
			x := few[r.Intn(len(few))]
			x.At = r.Intn(1000)
			next, open := m.step(x)
			if next == nil && r.Intn(500) > 0 {
				continue
			}
			l = append(l, x)
			if m = next; open > 64 {
				break
			}
		}
		_, e, _ := holdVerdict(t, "expr", append(l, api.Token{At: 7}))
		whys[e]++
	}
	if whys[api.ErrDepth] < 100 || whys[api.ErrParse] < 50 {
		t.Errorf("too few of the lists have one of the errors: %v", whys)
	}
}

// TestWrittenTokensAreCutAndParsed: places that rise, as they come of a source.
func TestWrittenTokensAreCutAndParsed(t *testing.T) {
	w := newWriter(7)
	for i := range 300 {
		want := w.anew(i, i%150)
		var b strings.Builder
		for _, x := range w.list {
			b.WriteString(tokens.Text(x) + " ")
		}
		got, e, _ := Pack(cut(b.String()))
		if _, why, _ := Pack(w.list); e != why {
			t.Fatalf("P10.1: %s: %d, not %d", shown(w.list), e, why)
		}
		if e == api.OK && !tree.Same(got, want) {
			t.Fatalf("P10.1: %s: %s, not %s", shown(w.list), text(got), text(want))
		}
	}
}
