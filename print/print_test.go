package print

import (
	"math"
	"strings"
	"testing"

	"tableau/api"
	"tableau/parse"
	"tableau/tokens"
	"tableau/tree"
)

// plant: a tree with its kids at hand.
type plant struct {
	api.Node
	kids []plant
}

func node(op int8, kids ...plant) plant {
	return plant{api.Node{Op: op, Kids: len(kids)}, kids}
}

func numbered(op int8, n int64, kids ...plant) plant {
	p := node(op, kids...)
	p.N = n
	return p
}

func named(op int8, text string, kids ...plant) plant {
	p := node(op, kids...)
	p.Text = text
	return p
}

// laid is the tree as a list.
func (p plant) laid() []api.Node {
	l := []api.Node{p.Node}
	for _, k := range p.kids {
		l = append(l, k.laid()...)
	}
	return l
}

func name(s string) plant { return named(api.TName, s) }

func num(n int64) plant { return numbered(api.TNum, n) }

func loop(n int64, s string, statements ...plant) plant {
	p := numbered(api.TRepeat, n, block(statements...))
	p.Text = s
	return p
}

func block(statements ...plant) plant { return node(api.TBlock, statements...) }

// card is a pack of one card with these lines.
func card(lines ...plant) plant { return node(api.TPack, named(api.TCard, "A", lines...)) }

// ability is a pack of one card with one ability of these statements.
func ability(statements ...plant) plant {
	return card(numbered(api.TOn, api.OnPlay, block(statements...)))
}

// wantSource says the tree's source, byte by byte, and what follows of it: it is cut and parsed as that tree, and printed again as the same bytes.
func wantSource(t *testing.T, p plant, want string) {
	t.Helper()
	l := p.laid()
	got, e := Tree(l)
	if e != api.OK || string(got) != want {
		t.Errorf("P11.1: %v: %d and\n%q, not\n%q", l, e, got, want)
		return
	}
	holdThereAndBack(t, l, got)
}

func holdThereAndBack(t *testing.T, l []api.Node, src []byte) {
	t.Helper()
	if len(src) > api.MaxSource {
		return
	}
	back, e := parsed(src)
	if e != api.OK || !tree.Same(back, l) {
		t.Errorf("P11.1: %q is not parsed as the tree of which it is the source: %d", src, e)
		return
	}
	if again, e := Tree(back); e != api.OK || string(again) != string(src) {
		t.Errorf("P11.1: %q is printed again as %q, %d", src, again, e)
	}
}

func parsed(src []byte) ([]api.Node, api.Errno) {
	l, e, _ := tokens.Cut(src)
	if e != api.OK {
		return nil, e
	}
	n, e, _ := parse.Pack(l)
	return n, e
}

// rows are the source of a card with these rows in it.
func rows(l ...string) string {
	return "card \"A\" {\n" + strings.Join(l, "\n") + "\n}\n"
}

// wantLines says the rows of a line of a card.
func wantLines(t *testing.T, line plant, l ...string) {
	t.Helper()
	for i := range l {
		l[i] = "\t" + l[i]
	}
	wantSource(t, card(line), rows(l...))
	wantSource(t, card(line, line), rows(append(l, l...)...))
}

// wantStatement says the rows of a statement, where it stands alone, with others about it, and in blocks of blocks.
func wantStatement(t *testing.T, statement plant, l ...string) {
	t.Helper()
	in := func(tabs int, ahead, behind []string) string {
		var all []string
		all = append(all, ahead...)
		for _, r := range l {
			all = append(all, strings.Repeat("\t", tabs)+r)
		}
		return rows(append(all, behind...)...)
	}
	wantSource(t, ability(statement), in(2, []string{"\ton play {"}, []string{"\t}"}))
	wantSource(t, ability(node(api.TStop), statement, node(api.TAbort)), in(2, []string{"\ton play {", "\t\tstop;"}, []string{"\t\tabort;", "\t}"}))
	wantSource(t, ability(loop(2, "i", statement)), in(3, []string{"\ton play {", "\t\trepeat 2 as i {"}, []string{"\t\t}", "\t}"}))
	wantSource(t, ability(node(api.TIf, name("a"), block(), block(statement))), in(3, []string{"\ton play {", "\t\tif a {", "\t\t} else {"}, []string{"\t\t}", "\t}"}))
	wantSource(t, ability(node(api.TIf, name("a"), block(), node(api.TIf, name("b"), block(statement)))), in(3, []string{"\ton play {", "\t\tif a {", "\t\t} else if b {"}, []string{"\t\t}", "\t}"}))
}

// wantExpr says an expression's text wherever an expression may stand.
func wantExpr(t *testing.T, e plant, want string) {
	t.Helper()
	wantSource(t, card(node(api.TOn, e, block())), rows("\ton play when "+want+" {", "\t}"))
	for _, x := range []struct {
		statement plant
		row       string
	}{
		{named(api.TLet, "x", e), "let x = E;"}, {named(api.TSet, "self", e), "self = E;"}, {named(api.TDo, "hit", e, e), "hit(E, E);"}, {named(api.TSet, "x", named(api.TCall, "f", e, e)), "x = f(E, E);"},
		{node(api.TIf, e, block()), "if E {\n\t\t}"}, {named(api.TEach, "c", e, block()), "each c in E {\n\t\t}"}, {named(api.TChoose, "c", e, block()), "choose c in E {\n\t\t}"}, {node(api.TIf, e, block(), node(api.TIf, e, block())), "if E {\n\t\t} else if E {\n\t\t}"},
	} {
		wantSource(t, ability(x.statement), rows("\ton play {", "\t\t"+strings.ReplaceAll(x.row, "E", want), "\t}"))
	}
}

func TestPacks(t *testing.T) {
	wantSource(t, node(api.TPack), "")
	wantSource(t, node(api.TPack, named(api.TCard, "")), "card \"\" {\n}\n")
	wantSource(t, node(api.TPack, named(api.TCard, "A"), named(api.TCard, "B")), "card \"A\" {\n}\ncard \"B\" {\n}\n")
	wantSource(t, node(api.TPack, named(api.TCard, "A", numbered(api.TCost, 1)), named(api.TCard, "A", numbered(api.TPower, 2))), "card \"A\" {\n\tcost 1;\n}\ncard \"A\" {\n\tpower 2;\n}\n")
	b, e := Tree([]api.Node{{Op: api.TPack}})
	if len(b) != 0 || e != api.OK {
		t.Errorf("P11.1: a pack without cards: %q, %d", b, e)
	}
}

func TestLines(t *testing.T) {
	for op, word := range map[int8]string{api.TCost: "cost", api.TPower: "power", api.THealth: "health"} {
		for n, digits := range map[int64]string{0: "0", 3: "3", 10: "10", 1000000001: "1000000001", math.MaxInt64: "9223372036854775807"} {
			wantLines(t, numbered(op, n), word+" "+digits+";")
		}
	}
	for text, written := range someTexts() {
		wantLines(t, named(api.TTag, text), "tag "+written+";")
		wantSource(t, node(api.TPack, named(api.TCard, text)), "card "+written+" {\n}\n")
	}
	for n, word := range []string{"play", "die", "hit", "turn", "draw"} {
		wantLines(t, numbered(api.TOn, int64(n), block()), "on "+word+" {", "}")
		wantLines(t, numbered(api.TOn, int64(n), node(api.TTrue), block()), "on "+word+" when true {", "}")
		wantLines(t, numbered(api.TOn, int64(n), node(api.TLt, num(1), num(2)), block(node(api.TStop))), "on "+word+" when 1 < 2 {", "\tstop;", "}")
	}
	wantSource(t, card(numbered(api.TCost, 1), named(api.TTag, "x"), numbered(api.TOn, 4, block()), numbered(api.THealth, 2)), rows("\tcost 1;", "\ttag \"x\";", "\ton draw {", "\t}", "\thealth 2;"))
}

// someTexts: how texts are written, as tokens are.
func someTexts() map[string]string {
	return map[string]string{
		"": `""`, "Fox": `"Fox"`, " a  b ": `" a  b "`, `"`: `"\""`, `\`: `"\\"`, `a"\n`: `"a\"\\n"`, "//": `"//"`, "{ } ;": `"{ } ;"`, "~": `"~"`,
		strings.Repeat("x", 64): `"` + strings.Repeat("x", 64) + `"`, strings.Repeat(`\`, 64): `"` + strings.Repeat(`\`, 128) + `"`,
	}
}

func TestStatements(t *testing.T) {
	one, stop, abort := num(1), node(api.TStop), node(api.TAbort)
	wantStatement(t, named(api.TLet, "x", one), "let x = 1;")
	wantStatement(t, named(api.TLet, "a_Z9", one), "let a_Z9 = 1;")
	for _, s := range []string{"x", "self", "me", strings.Repeat("x", 32)} {
		wantStatement(t, named(api.TSet, s, one), s+" = 1;")
	}
	wantStatement(t, stop, "stop;")
	wantStatement(t, abort, "abort;")
	for n, digits := range map[int64]string{0: "0", 3: "3", math.MaxInt64: "9223372036854775807"} {
		wantStatement(t, loop(n, "x"), "repeat "+digits+" as x {", "}")
		wantStatement(t, loop(n, "y", stop, abort), "repeat "+digits+" as y {", "\tstop;", "\tabort;", "}")
	}
	list := named(api.TField, "cards", name("z"))
	for op, word := range map[int8]string{api.TEach: "each", api.TChoose: "choose"} {
		wantStatement(t, named(op, "x", list, block()), word+" x in z.cards {", "}")
		wantStatement(t, named(op, "x", list, block(stop, abort)), word+" x in z.cards {", "\tstop;", "\tabort;", "}")
		wantStatement(t, named(op, "x", list, block(named(op, "y", list, block(stop)))), word+" x in z.cards {", "\t"+word+" y in z.cards {", "\t\tstop;", "\t}", "}")
	}
	wantStatement(t, named(api.TChoose, "x", list, block(), block()), "choose x in z.cards {", "} else {", "}")
	wantStatement(t, named(api.TChoose, "x", list, block(stop), block(abort)), "choose x in z.cards {", "\tstop;", "} else {", "\tabort;", "}")
	wantStatement(t, named(api.TChoose, "x", list, block(), block(node(api.TIf, one, block()))), "choose x in z.cards {", "} else {", "\tif 1 {", "\t}", "}")
}

func TestEffects(t *testing.T) {
	for _, s := range []string{"move", "hit", "draw", "f"} {
		wantStatement(t, named(api.TDo, s), s+"();")
		wantStatement(t, named(api.TDo, s, name("me")), s+"(me);")
		wantStatement(t, named(api.TDo, s, name("self"), num(1)), s+"(self, 1);")
		wantStatement(t, named(api.TDo, s, node(api.TOr, name("a"), name("b")), node(api.TNot, name("c")), named(api.TCall, "g")), s+"(a || b, !c, g());")
	}
}

func TestIfs(t *testing.T) {
	a, b, c := name("a"), name("b"), name("c")
	stop, abort := node(api.TStop), node(api.TAbort)
	wantStatement(t, node(api.TIf, a, block()), "if a {", "}")
	wantStatement(t, node(api.TIf, a, block(stop)), "if a {", "\tstop;", "}")
	wantStatement(t, node(api.TIf, a, block(), block()), "if a {", "} else {", "}")
	wantStatement(t, node(api.TIf, a, block(stop), block(abort)), "if a {", "\tstop;", "} else {", "\tabort;", "}")
	wantStatement(t, node(api.TIf, a, block(), node(api.TIf, b, block())), "if a {", "} else if b {", "}")
	wantStatement(t, node(api.TIf, a, block(), node(api.TIf, b, block(), block())), "if a {", "} else if b {", "} else {", "}")
	wantStatement(t, node(api.TIf, a, block(stop), node(api.TIf, b, block(abort), block(stop, stop))), "if a {", "\tstop;", "} else if b {", "\tabort;", "} else {", "\tstop;", "\tstop;", "}")
	wantStatement(t, node(api.TIf, a, block(), node(api.TIf, b, block(), node(api.TIf, c, block(stop), block(abort)))), "if a {", "} else if b {", "} else if c {", "\tstop;", "} else {", "\tabort;", "}")
	// An if that stands in a block behind an else is not the else's own.
	wantStatement(t, node(api.TIf, a, block(), block(node(api.TIf, b, block()))), "if a {", "} else {", "\tif b {", "\t}", "}")
	wantStatement(t, node(api.TIf, a, block(node(api.TIf, b, block(), block())), block()), "if a {", "\tif b {", "\t} else {", "\t}", "} else {", "}")
	wantStatement(t, node(api.TIf, a, block(node(api.TIf, b, block()))), "if a {", "\tif b {", "\t}", "}")
	wantStatement(t, node(api.TIf, a, block(), node(api.TIf, b, block(node(api.TIf, c, block(), block(stop)), abort))), "if a {", "} else if b {", "\tif c {", "\t} else {", "\t\tstop;", "\t}", "\tabort;", "}")
}

// TestBlocksWithinBlocks: a byte 9 for each block and for the card.
func TestBlocksWithinBlocks(t *testing.T) {
	for depth := 1; depth <= 64; depth++ {
		inner, head, tail := node(api.TStop), "", ""
		for tabs := depth; tabs > 1; tabs-- {
			inner = named(api.TEach, "c", name("l"), block(inner))
			head = strings.Repeat("\t", tabs) + "each c in l {\n" + head
			tail += strings.Repeat("\t", tabs) + "}\n"
		}
		wantSource(t, ability(inner), "card \"A\" {\n\ton play {\n"+head+strings.Repeat("\t", depth+1)+"stop;\n"+tail+"\t}\n}\n")
	}
}

// TestIfsBehindElse: the rows of an if behind an else stand where those of the first one do.
func TestIfsBehindElse(t *testing.T) {
	for many := 1; many < 63; many++ {
		last, want := node(api.TIf, name("a"), block(node(api.TStop)), block(node(api.TAbort))), "\t\tif a {\n\t\t\tstop;\n\t\t} else {\n\t\t\tabort;\n\t\t}\n"
		for range many - 1 {
			last = node(api.TIf, name("b"), block(node(api.TStop)), last)
			want = "\t\tif b {\n\t\t\tstop;\n\t\t} else " + strings.TrimPrefix(want, "\t\t")
		}
		wantSource(t, ability(last), "card \"A\" {\n\ton play {\n"+want+"\t}\n}\n")
	}
}

func TestItems(t *testing.T) {
	wantExpr(t, node(api.TTrue), "true")
	wantExpr(t, node(api.TFalse), "false")
	for n, digits := range map[int64]string{0: "0", 7: "7", 120: "120", math.MaxInt64: "9223372036854775807"} {
		wantExpr(t, num(n), digits)
	}
	for _, s := range []string{"x", "self", "me", "zone", "aB_9", strings.Repeat("x", 32)} {
		wantExpr(t, name(s), s)
	}
	for _, s := range []string{"power", "if", "self", "deck", "count", "x"} {
		wantExpr(t, named(api.TField, s, name("a")), "a."+s)
		wantExpr(t, named(api.TField, s, named(api.TField, "b", named(api.TCall, "f"))), "f().b."+s)
		wantExpr(t, named(api.TField, s, num(1)), "1."+s)
	}
}

func TestCalls(t *testing.T) {
	call := func(kids ...plant) plant { return named(api.TCall, "f", kids...) }
	word := func(n int64) plant { return numbered(api.TWord, n) }
	wantExpr(t, call(), "f()")
	wantExpr(t, call(num(1)), "f(1)")
	wantExpr(t, call(num(1), num(2)), "f(1, 2)")
	wantExpr(t, call(num(1), num(2), num(3), num(4)), "f(1, 2, 3, 4)")
	wantExpr(t, call(node(api.TOr, name("a"), name("b")), node(api.TNeg, name("c")), call(call())), "f(a || b, -c, f(f()))")
	for n, s := range []string{"deck", "hand", "board", "grave"} {
		wantExpr(t, call(word(int64(n))), "f("+s+")")
		wantExpr(t, call(name("me"), word(int64(n))), "f(me, "+s+")")
		wantExpr(t, call(word(int64(n)), name("me"), word(0)), "f("+s+", me, deck)")
	}
	for s, written := range someTexts() {
		wantExpr(t, call(named(api.TText, s)), "f("+written+")")
		wantExpr(t, call(name("self"), named(api.TText, s), word(1)), "f(self, "+written+", hand)")
	}
}

// TestExamples: those of the chapter, by what is parsed.
func TestExamples(t *testing.T) {
	wantPrinted(t, `card "Fox"{cost 1;on play when(1<2){if true{stop;}else if false{}else{hit(self,1+(2*3));}}}`,
		"card \"Fox\" {\n\tcost 1;\n\ton play when 1 < 2 {\n\t\tif true {\n\t\t\tstop;\n\t\t} else if false {\n\t\t} else {\n\t\t\thit(self, 1 + 2 * 3);\n\t\t}\n\t}\n}\n")
	for e, want := range map[string]string{
		"a-(b-c)": "a - (b - c)", "(a-b)-c": "a - b - c", "!(a==b)": "!a == b", "(!a)==b": "(!a) == b", "-(a.power)": "-a.power", "- -(1)": "--1", "(a||b)&&c": "(a || b) && c", "zone(next(me),grave).size": "zone(next(me), grave).size",
	} {
		wantPrinted(t, `card "A"{on die{let x=`+e+";}}", rows("\ton die {", "\t\tlet x = "+want+";", "\t}"))
	}
	wantPrinted(t, "", "")
}

func wantPrinted(t *testing.T, src, want string) {
	t.Helper()
	n, e := parsed([]byte(src))
	got, why := Tree(n)
	if e != api.OK || why != api.OK || string(got) != want {
		t.Errorf("P11.1: %s: %d, %d and\n%q, not\n%q", src, e, why, got, want)
	}
}

// TestWhatSaysNothing: blanks, remarks and needless parentheses.
func TestWhatSaysNothing(t *testing.T) {
	want := "card \"A\" {\n\tcost 7;\n\ton hit when a {\n\t\thit(a + b, -1);\n\t}\n}\n"
	for _, src := range []string{
		want, `card"A"{cost 7;on hit when a{hit(a+b,-1);}}`, "card // x\n \"A\"{\r\n\r\ncost\t7 ; on hit\nwhen a { hit ( a + b , - 1 ) ; }\n\n} // the end", `card "A" { cost 7; on hit when ((a)) { hit(((a) + (b)), (-(1))); } }`, `card "A" { cost 7; on hit when (a) { hit((a + b), -(1)); } }`,
	} {
		wantPrinted(t, src, want)
	}
}
