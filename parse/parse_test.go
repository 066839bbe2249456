package parse

import (
	"math"
	"slices"
	"strconv"
	"strings"
	"testing"

	"tableau/api"
	"tableau/tokens"
)

// call is Pack or Expr.
type call func(l []api.Token) ([]api.Node, api.Errno, int)

// cut is the source's tokens.
func cut(src string) []api.Token {
	l, e, at := tokens.Cut([]byte(src))
	if e != api.OK {
		panic("the test's source " + src + " is not cut: " + e.Error() + " at " + strconv.Itoa(at))
	}
	return l
}

// opNames are the names of the nodes, without their T.
func opNames() map[int8]string {
	return map[int8]string{
		api.TPack: "Pack", api.TCard: "Card", api.TCost: "Cost", api.TPower: "Power", api.THealth: "Health", api.TTag: "Tag", api.TOn: "On",
		api.TBlock: "Block", api.TLet: "Let", api.TSet: "Set", api.TIf: "If", api.TRepeat: "Repeat", api.TEach: "Each", api.TChoose: "Choose", api.TStop: "Stop", api.TAbort: "Abort", api.TDo: "Do",
		api.TNum: "Num", api.TTrue: "True", api.TFalse: "False", api.TName: "Name", api.TNot: "Not", api.TNeg: "Neg", api.TOr: "Or", api.TAnd: "And",
		api.TEq: "Eq", api.TNe: "Ne", api.TLt: "Lt", api.TLe: "Le", api.TGt: "Gt", api.TGe: "Ge",
		api.TAdd: "Add", api.TSub: "Sub", api.TMul: "Mul", api.TDiv: "Div", api.TRem: "Rem", api.TField: "Field", api.TCall: "Call", api.TWord: "Word", api.TText: "Text",
	}
}

// told is the tree as a text: Op, N, Text, At, kids; and what is left of the list.
func told(l []api.Node) (string, []api.Node) {
	n := l[0]
	s := opNames()[n.Op]
	if n.N != 0 {
		s += " " + strconv.FormatInt(n.N, 10)
	}
	if n.Text != "" {
		s += " " + n.Text
	}
	if n.Kind != 0 || n.M != 0 || opNames()[n.Op] == "" {
		s += " with what may not be"
	}
	s += " @" + strconv.Itoa(n.At)
	l = l[1:]
	var kids []string
	for range n.Kids {
		if len(l) == 0 {
			return s + " with too few kids", nil
		}
		var k string
		k, l = told(l)
		kids = append(kids, k)
	}
	if kids != nil {
		s += "(" + strings.Join(kids, ", ") + ")"
	}
	return s, l
}

// text is the whole list as a text.
func text(l []api.Node) string {
	var parts []string
	for len(l) > 0 {
		var s string
		s, l = told(l)
		parts = append(parts, s)
	}
	return strings.Join(parts, "; ")
}

// shown is the tokens as a source, if that is not too long.
func shown(l []api.Token) string {
	var b strings.Builder
	for _, t := range l {
		b.WriteString(tokens.Text(t) + " ")
	}
	return strconv.Quote(b.String()[:min(b.Len(), 200)])
}

// wantTree holds that the tokens are parsed, as that tree.
func wantTree(t *testing.T, promise string, parse call, l []api.Token, want string) {
	t.Helper()
	n, e, at := parse(l)
	if e != api.OK || at != 0 || text(n) != want {
		t.Errorf("%s: %s: %s, %d, %d; not %s, 0, 0", promise, shown(l), text(n), e, at, want)
	}
}

// wantRefused holds that the tokens are refused for that reason, at that place.
func wantRefused(t *testing.T, promise string, parse call, l []api.Token, why api.Errno, place int) {
	t.Helper()
	n, e, at := parse(l)
	if len(n) != 0 || e != why || at != place {
		t.Errorf("%s: %s: %d nodes, %d, %d; not 0, %d, %d", promise, shown(l), len(n), e, at, why, place)
	}
}

func TestPacks(t *testing.T) {
	for src, want := range map[string]string{
		"":                        "Pack @0",
		" ":                       "Pack @1",
		"// nothing\n":            "Pack @11",
		` card "A" {}`:            `Pack @1(Card A @1)`,
		`card""{}card "B"{}`:      `Pack @0(Card @0, Card B @8)`,
		`card "\"\\"{tag"card";}`: `Pack @0(Card "\ @0(Tag card @12))`,
		`card "A" { cost 2; on play { draw(me); } }`:     "Pack @0(Card A @0(Cost 2 @11, On @19(Block @27(Do draw @29(Name me @34)))))",
		`card "a" { cost 0; power 3; health 4; }`:        "Pack @0(Card a @0(Cost @11, Power 3 @19, Health 4 @28))",
		`card "a" { tag "x"; tag ""; cost 1; cost 1; }`:  "Pack @0(Card a @0(Tag x @11, Tag @20, Cost 1 @28, Cost 1 @36))",
		`card "a" { power 9223372036854775807; }`:        "Pack @0(Card a @0(Power 9223372036854775807 @11))",
		`card "a" { on play {} on die {} on hit {} }`:    "Pack @0(Card a @0(On @11(Block @19), On 1 @22(Block @29), On 2 @32(Block @39)))",
		`card "a" { on turn {} on draw {} }`:             "Pack @0(Card a @0(On 3 @11(Block @19), On 4 @22(Block @30)))",
		`card "a" { on hit when x {} on draw when(1){}}`: "Pack @0(Card a @0(On 2 @11(Name x @23, Block @25), On 4 @28(Num 1 @41, Block @43)))",
	} {
		wantTree(t, "P10.1", Pack, cut(src), want)
	}
}

// inBlock is the source of a pack with these statements, the first one at the place 0 of what is told.
const (
	inBlockHead = `card "A" { on play { `
	inBlockTail = ` } }`
)

// statementTexts are statements, and their trees; places are counted from the first one on.
func statementTexts() map[string]string {
	return map[string]string{
		"":                               "",
		"let x = 1;":                     "Let x @0(Num 1 @8)",
		"let y=x;let x=y;":               "Let y @0(Name x @6), Let x @8(Name y @14)",
		"x = 1;":                         "Set x @0(Num 1 @4)",
		"self = x; me = x;":              "Set self @0(Name x @7), Set me @10(Name x @15)",
		"if a { }":                       "If @0(Name a @3, Block @5)",
		"if a { stop; } else { abort; }": "If @0(Name a @3, Block @5(Stop @7), Block @20(Abort @22))",
		"if a { } else if b { }":         "If @0(Name a @3, Block @5, If @14(Name b @17, Block @19))",
		"if a{}else if b{}else{}":        "If @0(Name a @3, Block @4, If @11(Name b @14, Block @15, Block @21))",
		"if a{}else if b{}else if c{}":   "If @0(Name a @3, Block @4, If @11(Name b @14, Block @15, If @22(Name c @25, Block @26)))",
		"if a{}else{if b{}else{}}":       "If @0(Name a @3, Block @4, Block @10(If @11(Name b @14, Block @15, Block @21)))",
		"if a{if b{}}else{}":             "If @0(Name a @3, Block @4(If @5(Name b @8, Block @9)), Block @16)",
		"if a{}if b{}else{}":             "If @0(Name a @3, Block @4), If @6(Name b @9, Block @10, Block @16)",
		"if a{}else if b{}stop;":         "If @0(Name a @3, Block @4, If @11(Name b @14, Block @15)), Stop @17",
		"repeat 3 as i { stop; }":        "Repeat 3 i @0(Block @14(Stop @16))",
		"repeat 0 as i{}":                "Repeat i @0(Block @13)",
		"each c in l { stop; }":          "Each c @0(Name l @10, Block @12(Stop @14))",
		"choose c in l { stop; }":        "Choose c @0(Name l @12, Block @14(Stop @16))",
		"choose c in l{}else{abort;}":    "Choose c @0(Name l @12, Block @13, Block @19(Abort @20))",
		"choose c in l{if a{}}else{}":    "Choose c @0(Name l @12, Block @13(If @14(Name a @17, Block @18)), Block @25)",
		"if a{choose c in l{}}else{}":    "If @0(Name a @3, Block @4(Choose c @5(Name l @17, Block @18)), Block @25)",
		"stop; abort;":                   "Stop @0, Abort @6",
		"move();":                        "Do move @0",
		"hit(self, 1);":                  "Do hit @0(Name self @4, Num 1 @10)",
		"draw(a); draw(draw1);":          "Do draw @0(Name a @5), Do draw @9(Name draw1 @14)",
		"x(1, 2 + 3, (4));":              "Do x @0(Num 1 @2, Add @7(Num 2 @5, Num 3 @9), Num 4 @13)",
		"x(y(deck)); x = y(\"a\");":      "Do x @0(Call y @2(Word @4)), Set x @12(Call y @16(Text a @18))",
		"if f(a){}":                      "If @0(Call f @3(Name a @5), Block @7)",
		"if (a){}":                       "If @0(Name a @4, Block @6)",
	}
}

// moved is the text of trees with all places so many further.
func moved(s string, by int) string {
	parts := strings.Split(s, "@")
	for i := range parts[1:] {
		digits := len(parts[i+1]) - len(strings.TrimLeft(parts[i+1], "0123456789"))
		n, _ := strconv.Atoi(parts[i+1][:digits])
		parts[i+1] = strconv.Itoa(n+by) + parts[i+1][digits:]
	}
	return strings.Join(parts, "@")
}

func TestStatements(t *testing.T) {
	for src, want := range statementTexts() {
		if want != "" {
			want = "(" + moved(want, len(inBlockHead)) + ")"
		}
		wantTree(t, "P10.1", Pack, cut(inBlockHead+src+inBlockTail), "Pack @0(Card A @0(On @11(Block @19"+want+")))")
	}
}

// expressionTexts are expressions, and their trees.
func expressionTexts() map[string]string {
	return map[string]string{
		"0": "Num @0", "9223372036854775807": "Num 9223372036854775807 @0", " 7": "Num 7 @1", "true": "True @0", "false": "False @0", "x": "Name x @0", "self": "Name self @0", "me": "Name me @0",
		"f()": "Call f @0", "f(x)": "Call f @0(Name x @2)", "f (1,2,3)": "Call f @0(Num 1 @3, Num 2 @5, Num 3 @7)", "f(f(f()))": "Call f @0(Call f @2(Call f @4))",
		"f(deck, hand, board, grave)": "Call f @0(Word @2, Word 1 @8, Word 2 @14, Word 3 @21)", "f(\"\", \"card\", x)": "Call f @0(Text @2, Text card @6, Name x @14)",
		"zone(me, hand)": "Call zone @0(Name me @5, Word 1 @9)", "f(a || b, !c, -d)": "Call f @0(Or @4(Name a @2, Name b @7), Not @10(Name c @11), Neg @14(Name d @15))",
		"(x)": "Name x @1", "((1))": "Num 1 @2", "(f(x))": "Call f @1(Name x @3)",
		"a.power": "Field power @2(Name a @0)", "a . b . c": "Field c @8(Field b @4(Name a @0))", "a.deck.if.self": "Field self @10(Field if @7(Field deck @2(Name a @0)))",
		"1.x": "Field x @2(Num 1 @0)", "true.x": "Field x @5(True @0)", "self.x": "Field x @5(Name self @0)", "f().x": "Field x @4(Call f @0)", "(a + b).x": "Field x @8(Add @3(Name a @1, Name b @5))", "(a.b).c": "Field c @6(Field b @3(Name a @1))",
		"!a": "Not @0(Name a @1)", "!!a": "Not @0(Not @1(Name a @2))", "-1": "Neg @0(Num 1 @1)", "--1": "Neg @0(Neg @1(Num 1 @2))", "- -1": "Neg @0(Neg @2(Num 1 @3))", "!-1": "Not @0(Neg @1(Num 1 @2))", "-(!a)": "Neg @0(Not @2(Name a @3))",
		"-a.count": "Neg @0(Field count @3(Name a @1))", "(-a).count": "Field count @5(Neg @1(Name a @2))", "-f(x)": "Neg @0(Call f @1(Name x @3))",
		"a || b": "Or @2(Name a @0, Name b @5)", "a && b": "And @2(Name a @0, Name b @5)",
		"a == b": "Eq @2(Name a @0, Name b @5)", "a != b": "Ne @2(Name a @0, Name b @5)", "a < b": "Lt @2(Name a @0, Name b @4)", "a <= b": "Le @2(Name a @0, Name b @5)", "a > b": "Gt @2(Name a @0, Name b @4)", "a >= b": "Ge @2(Name a @0, Name b @5)",
		"a + b": "Add @2(Name a @0, Name b @4)", "a - b": "Sub @2(Name a @0, Name b @4)", "a * b": "Mul @2(Name a @0, Name b @4)", "a / b": "Div @2(Name a @0, Name b @4)", "a % b": "Rem @2(Name a @0, Name b @4)",
		"a - 1 + b * c.power": "Add @6(Sub @2(Name a @0, Num 1 @4), Mul @10(Name b @8, Field power @14(Name c @12)))",
		"!a == b":             "Not @0(Eq @3(Name a @1, Name b @6))", "(!a) == b": "Eq @5(Not @1(Name a @2), Name b @8)",
		"a--b": "Sub @1(Name a @0, Neg @2(Name b @3))", "-a-b": "Sub @2(Neg @0(Name a @1), Name b @3)", "-1*-2": "Mul @2(Neg @0(Num 1 @1), Neg @3(Num 2 @4))",
	}
}

func TestExpressions(t *testing.T) {
	const head, tail = `card "A" { on play when `, ` { } }`
	for src, want := range expressionTexts() {
		wantTree(t, "P10.2", Expr, cut(src), want)
		place := strconv.Itoa(len(head + src + " "))
		wantTree(t, "P10.1", Pack, cut(head+src+tail), "Pack @0(Card A @0(On @11("+moved(want, len(head))+", Block @"+place+")))")
	}
}

// TestPlacesThatDoNotRise: where tokens stand says nothing but where nodes do.
func TestPlacesThatDoNotRise(t *testing.T) {
	src := `card "A" { cost 1; on hit when a.b + f(deck, "x") { let x = -1; if a { } else if !b { stop; } else { x = (a - b) * c; } } }`
	want, e, _ := Pack(cut(src))
	if e != api.OK {
		t.Fatalf("P10.1: %s: %d", src, e)
	}
	for what, place := range map[string]func(i int) int{
		"falling": func(i int) int { return 1000 - i }, "all the same": func(i int) int { return 7 }, "up and down": func(i int) int { return i * 37 % 101 }, "0": func(i int) int { return 0 }, "the greatest": func(i int) int { return math.MaxInt },
	} {
		l := cut(src)
		by := map[int]int{}
		for i := range l {
			by[l[i].At] = place(i)
			l[i].At = place(i)
		}
		got, e, at := Pack(l)
		if e != api.OK || at != 0 || len(got) != len(want) {
			t.Errorf("P10.1: with places %s: %d nodes, %d, %d", what, len(got), e, at)
			continue
		}
		for i, n := range want {
			n.At = by[n.At]
			if got[i] != n {
				t.Errorf("P10.1: with places %s: %v, not %v", what, got[i], n)
			}
		}
		l[4] = api.Token{Kind: api.TkName, Text: "card", At: place(4)}
		wantRefused(t, "P10.1", Pack, l, api.ErrParse, place(4))
		l = l[:9]
		l[8] = api.Token{At: place(8)}
		wantRefused(t, "P10.1", Pack, l, api.ErrParse, place(4))
	}
	wantTree(t, "P10.2", Expr, []api.Token{{Kind: api.TkNum, Num: 1, At: 9}, {At: 2}}, "Num 1 @9")
	wantTree(t, "P10.1", Pack, []api.Token{{At: math.MaxInt}}, "Pack @"+strconv.Itoa(math.MaxInt))
}

// mayNotBe are tokens that may not be.
func mayNotBe() []api.Token {
	l := []api.Token{
		{Kind: api.TkName, Text: "x", At: -1}, {Kind: api.TkName, Text: "x", Num: 1}, {Kind: api.TkName, Text: "x", Num: -1}, {Kind: api.TkName}, {Kind: api.TkName, Text: "X"}, {Kind: api.TkName, Text: "1"}, {Kind: api.TkName, Text: "a b"}, {Kind: api.TkName, Text: "a\xc3"}, {Kind: api.TkName, Text: strings.Repeat("x", 33)},
		{Kind: api.TkNum, Num: -1}, {Kind: api.TkNum, Num: math.MinInt64}, {Kind: api.TkNum, Num: 1, Text: "1"}, {Kind: api.TkNum, Num: 1, At: -1},
		{Kind: api.TkText, Text: "\n"}, {Kind: api.TkText, Text: "\x7f"}, {Kind: api.TkText, Text: strings.Repeat("x", 65)}, {Kind: api.TkText, Text: "x", Num: 1}, {Kind: api.TkText, At: math.MinInt},
		{Kind: api.TkMark}, {Kind: api.TkMark, Text: "&"}, {Kind: api.TkMark, Text: "|"}, {Kind: api.TkMark, Text: "++"}, {Kind: api.TkMark, Text: "[", At: 3}, {Kind: api.TkMark, Text: "(", Num: 1}, {Kind: api.TkMark, Text: "(", At: -1}, {Kind: api.TkMark, Text: "card"},
		{Text: "x"}, {Num: 1}, {Num: -1}, {At: -1}, {At: math.MinInt},
	}
	for _, kind := range []int8{-128, -1, 5, 6, 7, 100, 127} {
		l = append(l, api.Token{Kind: kind}, api.Token{Kind: kind, Text: "x"})
	}
	return l
}

func wantNoList(t *testing.T, l []api.Token) {
	t.Helper()
	wantRefused(t, "P10.1", Pack, l, api.ErrArg, 0)
	wantRefused(t, "P10.2", Expr, l, api.ErrArg, 0)
}

func TestListsThatMayNotBeParsed(t *testing.T) {
	wantNoList(t, nil)
	wantNoList(t, []api.Token{})
	wantNoList(t, cut("x")[:0])
	for _, src := range []string{"x", `card "A" { }`, "1 + (2", "} } }", strings.Repeat("(", 70)} {
		l := cut(src)
		last := len(l) - 1
		wantNoList(t, l[:last])
		wantNoList(t, append(slices.Clone(l), api.Token{}))
		wantNoList(t, append(slices.Clone(l), api.Token{At: 5}, api.Token{At: 6}))
		wantNoList(t, append(slices.Clone(l), l[0]))
		wantNoList(t, append(slices.Clone(l), l...))
		wantNoList(t, append([]api.Token{{}}, l...))
		for at := range l {
			for _, x := range mayNotBe() {
				wantNoList(t, slices.Concat(l[:at], []api.Token{x}, l[at:]))
				wantNoList(t, slices.Concat(l[:at], []api.Token{x}, l[at+1:]))
			}
			wantNoList(t, slices.Insert(slices.Clone(l), at, api.Token{At: at}))
		}
		wantNoList(t, append(slices.Clone(l), mayNotBe()...))
	}
	for _, x := range mayNotBe() {
		wantNoList(t, []api.Token{x})
		wantNoList(t, []api.Token{x, {}})
		wantNoList(t, []api.Token{{}, x})
	}
}

func TestTheEdgesOfTokensAreTaken(t *testing.T) {
	long, wide := strings.Repeat("x", 32), strings.Repeat("~", 64)
	wantTree(t, "P10.2", Expr, []api.Token{{Kind: api.TkName, Text: long}, {}}, "Name "+long+" @0")
	wantTree(t, "P10.2", Expr, cut("f(\""+wide+"\")."+long), "Field "+long+" @70(Call f @0(Text "+wide+" @2))")
	wantTree(t, "P10.1", Pack, cut("card \""+wide+"\" { tag \""+wide+"\"; }"), "Pack @0(Card "+wide+" @0(Tag "+wide+" @74))")
}

// TestTextsAreNoWords: what a text says is neither a word nor a mark.
func TestTextsAreNoWords(t *testing.T) {
	for _, whole := range []struct {
		parse call
		src   string
	}{
		{Pack, `card "A" { cost 1; power 2; health 3; tag "x"; on play when a { if a { } else if b { } else { } repeat 1 as i { } each c in l { } choose c in l { } else { } stop; abort; x = 1; self = a; hit(a); f(); let x = a; } }`},
		{Expr, "a || b && !c == -(d + e) * f(g, deck).h || true"},
	} {
		l := cut(whole.src)
		if _, e, at := whole.parse(l); e != api.OK {
			t.Fatalf("P10: %s: %d, %d", whole.src, e, at)
		}
		for i, x := range l {
			if x.Kind != api.TkName && x.Kind != api.TkMark || x.Text == "deck" || x.Text == "g" {
				continue // as an argument a text is one, too
			}
			m := slices.Clone(l)
			m[i].Kind = api.TkText
			wantRefused(t, "P10", whole.parse, m, api.ErrParse, x.At)
		}
	}
}
