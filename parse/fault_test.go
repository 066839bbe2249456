package parse

import (
	"slices"
	"strings"
	"testing"

	"tableau/api"
	"tableau/tokens"
)

// allWords are the words of the language.
func allWords() []string {
	return strings.Fields("card cost power health tag on when let if else repeat as each in choose stop abort true false self me deck hand board grave play die hit turn draw")
}

// wantFault holds that the first token of rest is the one at which the source is refused, whatever stands behind it, and that what is ahead of it is not.
func wantFault(t *testing.T, promise string, parse call, ahead, rest string, why api.Errno) {
	t.Helper()
	head, tail := cut(ahead), cut(rest)
	head = head[:len(head)-1]
	place := len(ahead) + tail[0].At
	whole := cut(ahead + rest)
	wantRefused(t, promise, parse, whole, why, place)
	end := api.Token{At: place + 99}
	if tail[0].Kind != api.TkEnd {
		fault := whole[len(head)]
		for _, behind := range [][]api.Token{nil, head, {fault, fault}, cut("; } ) } card")[:5], cut(strings.Repeat("(", 70))[:70], {{Kind: api.TkText, Text: "card"}}, {{Kind: api.TkNum, Num: 1}, {Kind: api.TkName, Text: "x"}}} {
			wantRefused(t, promise, parse, slices.Concat(head, []api.Token{fault}, behind, []api.Token{end}), why, place)
		}
		// What is ahead of it is a whole, or the end alone is missed.
		if n, e, at := parse(slices.Concat(head, []api.Token{end})); e != api.OK && (e != api.ErrParse || at != end.At || len(n) != 0) {
			t.Errorf("%s: %s without what stands behind it: %d, %d", promise, ahead, e, at)
		}
	}
}

// place: what may stand ahead of a place of the grammar, and with which tokens a pack goes on there.
type place struct {
	ahead string
	takes string // tokens by their Text, and free, number, text, name, end
}

const (
	items       = "number true false free self me ( - "
	expressions = items + "! "
	statements  = "let if repeat each choose stop abort free self me hit draw "
	compared    = "== != < <= > >= "
	counted     = "+ - * / % "
	behindItem  = ". || && " + compared + counted
)

// expressionPlaces are those of expressions, each with what ends it.
func expressionPlaces(head, behind string) []place {
	return []place{
		{head, expressions}, {head + "!", expressions}, {head + "! !", expressions}, {head + "-", items}, {head + "!-", items}, {head + "(", expressions},
		{head + "1", behindItem + behind}, {head + "true", behindItem + behind}, {head + "self", behindItem + behind}, {head + "me", behindItem + behind}, {head + "-false", behindItem + behind}, {head + "!1", behindItem + behind},
		{head + "x", "( " + behindItem + behind}, {head + "(x)", behindItem + behind}, {head + "(1", behindItem + ")"}, {head + "(x", "( " + behindItem + ")"}, {head + "f()", behindItem + behind}, {head + "f(1)", behindItem + behind},
		{head + "x.", "name"}, {head + "x.y", behindItem + behind}, {head + "x.self", behindItem + behind}, {head + "x.y.", "name"},
		{head + "f(", expressions + "deck hand board grave text )"}, {head + "f(1", behindItem + ", )"}, {head + "f(x", "( " + behindItem + ", )"}, {head + "f(deck", ", )"}, {head + "f(hand", ", )"}, {head + "f(board", ", )"}, {head + "f(grave", ", )"}, {head + "f(\"a\"", ", )"},
		{head + "f(1,", expressions + "deck hand board grave text"}, {head + "f(deck,", expressions + "deck hand board grave text"}, {head + "f(1, 2", behindItem + ", )"}, {head + "f((", expressions}, {head + "f(-", items}, {head + "f(1 +", items},
		{head + "1 ||", expressions}, {head + "1 &&", expressions}, {head + "1 ==", items}, {head + "1 !=", items}, {head + "1 <", items}, {head + "1 <=", items}, {head + "1 >", items}, {head + "1 >=", items}, {head + "1 +", items}, {head + "1 -", items}, {head + "1 *", items}, {head + "1 /", items}, {head + "1 %", items},
		{head + "1 || 2", behindItem + behind}, {head + "1 && 2", behindItem + behind}, {head + "1 + 2", behindItem + behind}, {head + "1 * 2", behindItem + behind}, {head + "1 || 2 ||", expressions}, {head + "1 + 2 -", items},
		{head + "1 == 2", ". || && " + counted + behind}, {head + "1 < 2 + 3", ". || && " + counted + behind}, {head + "!1 >= 2", ". || && " + counted + behind}, {head + "1 == 2 && 3", behindItem + behind}, {head + "(1 == 2)", behindItem + behind},
	}
}

// packPlaces are those of packs, cards and statements.
func packPlaces() []place {
	const card = `card "A" { `
	const block = inBlockHead
	return []place{
		{"", "card end"}, {"card", "text"}, {`card "A"`, "{"}, {card, "cost power health tag on }"}, {card + "}", "card end"}, {card + "} card", "text"},
		{card + "cost", "number"}, {card + "power", "number"}, {card + "health", "number"}, {card + "cost 1", ";"}, {card + "power 1", ";"}, {card + "health 1", ";"}, {card + "cost 1;", "cost power health tag on }"}, {card + "tag", "text"}, {card + `tag "x"`, ";"}, {card + `tag "x";`, "cost power health tag on }"},
		{card + "on", "play die hit turn draw"}, {card + "on play", "when {"}, {card + "on hit", "when {"}, {card + "on draw {", statements + "}"}, {card + "on die { }", "cost power health tag on }"},
		{block + "let", "free"}, {block + "let x", "="}, {block + "let x = 1;", statements + "}"}, {block + "x", "= ("}, {block + "self", "="}, {block + "me", "="}, {block + "hit", "("}, {block + "draw", "("},
		{block + "if a {", statements + "}"}, {block + "if a { }", statements + "else }"}, {block + "if a { } else", "{ if"}, {block + "if a { } else { }", statements + "}"}, {block + "if a { } else if", expressions}, {block + "if a { } else if b { }", statements + "else }"}, {block + "if a { } else if b { } else", "{ if"}, {block + "if a { } else if b { } else { }", statements + "}"},
		{block + "repeat", "number"}, {block + "repeat 1", "as"}, {block + "repeat 1 as", "free"}, {block + "repeat 1 as i", "{"}, {block + "repeat 1 as i {", statements + "}"}, {block + "repeat 1 as i { }", statements + "}"},
		{block + "each", "free"}, {block + "each c", "in"}, {block + "each c in l {", statements + "}"}, {block + "each c in l { }", statements + "}"},
		{block + "choose", "free"}, {block + "choose c", "in"}, {block + "choose c in l {", statements + "}"}, {block + "choose c in l { }", statements + "else }"}, {block + "choose c in l { } else", "{"}, {block + "choose c in l { } else {", statements + "}"}, {block + "choose c in l { } else { }", statements + "}"},
		{block + "stop", ";"}, {block + "abort", ";"}, {block + "stop;", statements + "}"}, {block + "abort;", statements + "}"},
		{block + "f(", expressions + ")"}, {block + "f(1", behindItem + ", )"}, {block + "f(1,", expressions}, {block + "f(1, 2", behindItem + ", )"}, {block + "f()", ";"}, {block + "hit(1, 2)", ";"}, {block + "draw();", statements + "}"},
		{block + "}", "cost power health tag on }"}, {block + "} }", "card end"},
	}
}

// allTokens are one of each text, number, free name and so on, without their places.
func allTokens() map[string]api.Token {
	m := map[string]api.Token{"free": {Kind: api.TkName, Text: "xyz"}, "number": {Kind: api.TkNum, Num: 7}, "text": {Kind: api.TkText, Text: "xyz"}, "end": {}}
	for _, s := range allWords() {
		m[s] = api.Token{Kind: api.TkName, Text: s}
	}
	for _, s := range strings.Fields("{ } ( ) ; , . = == ! != < <= > >= + - * / % && ||") {
		m[s] = api.Token{Kind: api.TkMark, Text: s}
	}
	return m
}

// holdPlace tries each token at the place.
func holdPlace(t *testing.T, promise string, parse call, p place) {
	t.Helper()
	takes := strings.Fields(p.takes)
	for what, next := range allTokens() {
		may := slices.Contains(takes, what) || slices.Contains(takes, "name") && next.Kind == api.TkName
		switch {
		case !may:
			wantFault(t, promise, parse, p.ahead, " "+tokens.Text(next), api.ErrParse)
		case what == "end":
			if _, e, at := parse(cut(p.ahead)); e != api.OK {
				t.Errorf("%s: %s is a whole: %d, %d", promise, p.ahead, e, at)
			}
		default:
			// The token is taken: what may be wrong is the end behind it.
			l := cut(p.ahead + " " + tokens.Text(next) + " ")
			if _, e, at := parse(l); e != api.OK && (e != api.ErrParse || at != l[len(l)-1].At) {
				t.Errorf("%s: %s: with %s it goes on: %d, %d", promise, p.ahead, what, e, at)
			}
		}
	}
}

func TestEachTokenAtEachPlaceOfAPack(t *testing.T) {
	for _, p := range packPlaces() {
		holdPlace(t, "P10.1", Pack, p)
	}
	for _, x := range []struct{ ahead, behind string }{
		{`card "A" { on play when `, "{"}, {inBlockHead + "let x = ", ";"}, {inBlockHead + "x = ", ";"}, {inBlockHead + "self = ", ";"}, {inBlockHead + "if ", "{"}, {inBlockHead + "if a { } else if ", "{"}, {inBlockHead + "each c in ", "{"}, {inBlockHead + "choose c in ", "{"}, {inBlockHead + "f(", ", )"}, {inBlockHead + "hit(1, ", ", )"},
	} {
		for i, p := range expressionPlaces(x.ahead, x.behind) {
			if i == 0 && strings.HasSuffix(x.ahead, "f(") {
				p.takes += ")" // an effect may have no arguments
			}
			holdPlace(t, "P10.1", Pack, p)
		}
	}
}

func TestEachTokenAtEachPlaceOfAnExpression(t *testing.T) {
	for _, p := range expressionPlaces("", "end") {
		holdPlace(t, "P10.2", Expr, p)
	}
}

func TestExamplesOfFaults(t *testing.T) {
	for _, x := range []struct{ ahead, rest string }{
		{"", "cart"}, {"", ";"}, {"", "1"}, {"", `"card"`}, {"card ", "a"}, {"card ", "1"}, {`card "A" {`, ""}, {"card", ""}, {`card "A" {}`, ";"}, {`card "A" {} `, "}"}, {`card "A" {} `, "cost 1;"},
		{`card "A" { cost `, "-1; }"}, {`card "A" { cost `, "x; }"}, {`card "A" { cost 1 `, "2; }"}, {`card "A" { cost 1 `, "+ 2; }"}, {`card "A" { tag `, "x; }"}, {`card "A" { on `, "hat {} }"}, {`card "A" { on `, `"play" {} }`}, {`card "A" { on play `, "die {} }"}, {`card "A" { on play when `, "{} }"},
		{inBlockHead, "else { } } }"}, {inBlockHead, "{ } } }"}, {inBlockHead, "; } }"}, {inBlockHead, "1; } }"}, {inBlockHead + "if a { } else ", "x; } }"}, {inBlockHead + "if a ", "stop; } }"}, {inBlockHead + "if a { } else { } ", "else { } } }"}, {inBlockHead + "each c in l { } ", "else { } } }"}, {inBlockHead + "repeat 1 as i { } ", "else { } } }"}, {inBlockHead + "choose c in l { } else ", "if a { } } }"},
		{inBlockHead + "hit ", "= 1; } }"}, {inBlockHead + "draw ", "= 1; } }"}, {inBlockHead + "self", "(1); } }"}, {inBlockHead + "me", "(1); } }"}, {inBlockHead + "let ", "if = 1; } }"}, {inBlockHead + "let ", "self = 1; } }"}, {inBlockHead + "let ", "hit = 1; } }"}, {inBlockHead + "let x ", "== 1; } }"}, {inBlockHead + "draw(", "hand); } }"}, {inBlockHead + "is(self, ", `"x"); } }`}, {inBlockHead + "a ", "b; } }"}, {inBlockHead + "a", ".b = 1; } }"}, {inBlockHead + "a", ".b(); } }"}, {inBlockHead + "f()", ".x; } }"}, {inBlockHead + "f() ", "} }"}, {inBlockHead + "repeat ", "x as i { } } }"}, {inBlockHead + "repeat ", "(1) as i { } } }"}, {inBlockHead + "repeat 1 ", "{ } } }"}, {inBlockHead + "x = ", "; } }"}, {inBlockHead + "x = 1 ", "} }"}, {inBlockHead + "x = y ", "= 1; } }"},
	} {
		wantFault(t, "P10.1", Pack, x.ahead, x.rest, api.ErrParse)
	}
	for _, x := range []struct{ ahead, rest string }{
		{"", ""}, {"a < b ", "< c"}, {"a == b ", "!= c"}, {"a ", "! b"}, {"zone(me, hand ", "+ 1)"}, {"zone(me, hand", ".size)"}, {"", "hit(1)"}, {"", "draw(me)"}, {"self", "(1)"}, {"me", "(1)"}, {"true", "(1)"}, {"f(1,", ")"}, {"f(", ",1)"}, {"f(1 ", "2)"}, {"a +", ""}, {"", "deck"}, {"(", "deck)"}, {"f((", "deck))"}, {"f(-", "deck)"}, {"f(1 + ", "deck)"}, {"a.", "1"}, {"a.", "(b)"}, {"a.", `"b"`}, {"a.b", "(1)"}, {"a.", ".b"}, {"(a", ""}, {"(", ")"}, {"(a", ", b)"}, {"a == ", "!b"}, {"a + ", "!b"}, {"-", "!b"}, {"", `"x"`}, {"f(\"x\" ", "== 1)"}, {"1 ", "2"}, {"a", ")"}, {"a ", "= b"}, {"", "+ 1"}, {"a ", "; b"}, {"", "}"}, {"f(a", "}"}, {"f()", "(1)"}, {"(f)", "(1)"}, {"", ".a"}, {"a || ", "|| b"}, {"a && ", "|| b"}, {"", "if"}, {"a * ", "* b"},
	} {
		wantFault(t, "P10.2", Expr, x.ahead, x.rest, api.ErrParse)
	}
}
