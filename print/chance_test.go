package print

import (
	"math/rand"
	"slices"
	"strings"
	"testing"

	"tableau/api"
	"tableau/parse"
	"tableau/tokens"
	"tableau/tree"
)

// grower: makes trees by chance.
type grower struct {
	*rand.Rand
	sap int
}

func (g *grower) pick(l ...string) string { return l[g.Intn(len(l))] }

func (g *grower) text() string {
	return g.pick("", "x", "Fox", `"`, `\`, "} // {", "( )", strings.Repeat("~", 64))
}

func (g *grower) free() string {
	return g.pick("x", "y", "zone", "a1_Z", "cards", strings.Repeat("q", 32))
}

func (g *grower) number() int64 { return g.Int63() >> g.Intn(64) }

func (g *grower) several(most int, one func() plant) []plant {
	var l []plant
	for range g.Intn(most + 1) {
		if g.sap > 0 {
			l = append(l, one())
		}
	}
	return l
}

func (g *grower) pack() plant {
	p := node(api.TPack, g.several(3, g.card)...)
	g.stand(&p)
	return p
}

// stand gives each node a place, which says nothing.
func (g *grower) stand(p *plant) {
	p.At = g.Intn(1 << 20)
	for i := range p.kids {
		g.stand(&p.kids[i])
	}
}

func (g *grower) card() plant { return named(api.TCard, g.text(), g.several(4, g.line)...) }

func (g *grower) line() plant {
	g.sap--
	switch kind := int8(g.Intn(9)); {
	case kind < 3:
		return numbered(api.TCost+kind, g.number())
	case kind == 3:
		return named(api.TTag, g.text())
	case kind < 6:
		return numbered(api.TOn, g.Int63n(5), g.block())
	}
	return numbered(api.TOn, g.Int63n(5), g.expr(), g.block())
}

func (g *grower) block() plant { return block(g.several(4, g.statement)...) }

func (g *grower) statement() plant {
	g.sap--
	switch g.Intn(9) {
	case 0:
		return named(api.TLet, g.free(), g.expr())
	case 1:
		return named(api.TSet, g.pick("self", "me", g.free()), g.expr())
	case 2, 3:
		return g.ifs()
	case 4:
		return loop(g.number(), g.free(), g.several(3, g.statement)...)
	case 5:
		return named(api.TEach, g.free(), g.expr(), g.block())
	case 6:
		kids := []plant{g.expr(), g.block(), g.block()}
		return named(api.TChoose, g.free(), kids[:2+g.Intn(2)]...)
	case 7:
		return node(api.TStop + int8(g.Intn(2)))
	}
	return named(api.TDo, g.pick("hit", "draw", g.free()), g.several(3, g.expr)...)
}

func (g *grower) ifs() plant {
	g.sap--
	kids := []plant{g.expr(), g.block()}
	switch g.Intn(3) {
	case 1:
		kids = append(kids, g.block())
	case 2:
		kids = append(kids, g.ifs())
	}
	return node(api.TIf, kids...)
}

func (g *grower) expr() plant {
	g.sap--
	kind := g.Intn(10)
	if g.sap < 0 {
		kind = 0
	}
	switch kind {
	case 0, 1:
		return g.item()
	case 2:
		return node(api.TNot, g.expr())
	case 3:
		return node(api.TNeg, g.expr())
	case 4:
		return named(api.TField, g.pick("power", "if", "self", g.free()), g.expr())
	case 5:
		return named(api.TCall, g.free(), g.several(3, g.argument)...)
	}
	return node(api.TOr+int8(g.Intn(13)), g.expr(), g.expr())
}

func (g *grower) item() plant {
	switch g.Intn(4) {
	case 0:
		return num(g.number())
	case 1:
		return node(api.TTrue + int8(g.Intn(2)))
	}
	return name(g.pick("self", "me", g.free()))
}

func (g *grower) argument() plant {
	switch g.Intn(5) {
	case 0:
		return numbered(api.TWord, g.Int63n(4))
	case 1:
		return named(api.TText, g.text())
	}
	return g.expr()
}

func newGrower(seed int64) *grower { return &grower{Rand: rand.New(rand.NewSource(seed))} }

func (g *grower) anew(sap int) plant {
	g.sap = sap
	return g.pack()
}

func TestTreesByChance(t *testing.T) {
	g := newGrower(11)
	deepest, ops := 0, map[int8]int{}
	for i := range 1500 {
		p := g.anew(i % 400)
		l := p.laid()
		got, e := Tree(l)
		why, _ := tree.Check(l)
		if why != api.OK {
			if why != api.ErrDepth || e != why || got != nil {
				t.Fatalf("P11.1: %q, %d; tree.Check tells %d", got, e, why)
			}
			continue
		}
		if want := modelSource(p); e != api.OK || string(got) != want {
			t.Fatalf("P11.1: %d and\n%s\nnot\n%s", e, got, want)
		}
		holdThereAndBack(t, l, got)
		deepest = max(deepest, tree.Depth(l))
		for _, n := range l {
			ops[n.Op]++
		}
	}
	if deepest < 12 || len(ops) != 40 {
		t.Errorf("the trees by chance are too flat (%d), or of too few kinds of nodes (%d)", deepest, len(ops))
	}
}

// pairsOf are the places of the tokens that are parentheses and their fellows, but a call's or an effect's, which stand behind a name.
func pairsOf(l []api.Token) [][2]int {
	var pairs [][2]int
	var open []int
	for i, x := range l {
		if x.Kind != api.TkMark {
			continue
		}
		switch x.Text {
		case "(":
			open = append(open, i)
		case ")":
			from := open[len(open)-1]
			open = open[:len(open)-1]
			if behind := l[from-1]; behind.Kind != api.TkName || behind.Text == "when" || behind.Text == "if" || behind.Text == "in" {
				pairs = append(pairs, [2]int{from, i})
			}
		}
	}
	return pairs
}

// TestNoParenthesesAreNeedless: without a pair of them the source isn't parsed, or as another tree.
func TestNoParenthesesAreNeedless(t *testing.T) {
	g := newGrower(110)
	pairs := 0
	for i := range 600 {
		l := g.anew(i % 200).laid()
		src, e := Tree(l)
		if e != api.OK {
			continue
		}
		list, e, _ := tokens.Cut(src)
		if e != api.OK {
			t.Fatalf("P11.1: %s is not cut: %d", src, e)
		}
		for _, pair := range pairsOf(list) {
			pairs++
			fewer := slices.Concat(list[:pair[0]], list[pair[0]+1:pair[1]], list[pair[1]+1:])
			if back, e, _ := parse.Pack(fewer); e == api.OK && tree.Same(back, l) {
				t.Fatalf("P11.1: the parentheses at %d of %s are needless", list[pair[0]].At, src)
			}
		}
	}
	if pairs < 3000 {
		t.Errorf("too few pairs of parentheses: %d", pairs)
	}
}

// TestParsedSources: what is parsed is printed, with needless parentheses or without; and what is printed of it is the tree's own source.
func TestParsedSources(t *testing.T) {
	g := newGrower(1100)
	for i := range 300 {
		p := g.anew(i % 100)
		want, e := Tree(p.laid())
		if e != api.OK {
			continue
		}
		list, _, _ := tokens.Cut(want)
		var b strings.Builder
		for j, x := range list {
			// A needless pair about a number or about true, in other blanks, with remarks.
			s := tokens.Text(x)
			isItem := x.Kind == api.TkNum && list[j-1].Text != "cost" && list[j-1].Text != "power" && list[j-1].Text != "health" && list[j-1].Text != "repeat" || x.Text == "true" && x.Kind == api.TkName
			if isItem && g.Intn(2) == 0 {
				s = "(" + s + ")"
			}
			b.WriteString(s + " " + g.pick("", "\n", "\t\r", "// }\n"))
		}
		src := b.String()
		if len(src) > api.MaxSource {
			continue
		}
		n, e := parsed([]byte(src))
		if e == api.ErrDepth {
			continue
		}
		got, why := Tree(n)
		if e != api.OK || why != api.OK || string(got) != string(want) {
			t.Fatalf("P11.1: %s\nis printed as\n%s, %d, %d", src, got, e, why)
		}
	}
}
