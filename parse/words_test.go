package parse

import (
	"slices"
	"strings"
	"testing"

	"tableau/api"
)

// wordPlace: a place at which a name of some sort is asked for.
type wordPlace struct {
	what        string
	parse       call
	ahead, rest string
	may         string // the words that may stand there, as free names do
	elsewhere   string // words that may stand there, too, but with something else behind them than rest
}

func wordPlaces() []wordPlace {
	const zones = "deck hand board grave"
	return []wordPlace{
		{"behind let", Pack, inBlockHead + "let ", " = 1;" + inBlockTail, "", ""},
		{"behind as", Pack, inBlockHead + "repeat 1 as ", " { }" + inBlockTail, "", ""},
		{"behind each", Pack, inBlockHead + "each ", " in l { }" + inBlockTail, "", ""},
		{"behind choose", Pack, inBlockHead + "choose ", " in l { }" + inBlockTail, "", ""},
		{"ahead of =", Pack, inBlockHead, " = 1;" + inBlockTail, "self me", "hit draw let if repeat each choose stop abort"},
		{"an effect", Pack, inBlockHead, "();" + inBlockTail, "hit draw", "self me let repeat each choose stop abort"},
		{"an item", Expr, "", " + 1", "self me true false", ""},
		{"an item behind a mark", Expr, "1 + ", "", "self me true false", ""},
		{"an item in parentheses", Expr, "(", ")", "self me true false", ""},
		{"what a field is of", Expr, "-", ".x", "self me true false", ""},
		{"a function", Expr, "", "()", "", "self me true false"},
		{"a function behind a mark", Expr, "!", "(1)", "", "self me true false"},
		{"an effect's argument", Pack, inBlockHead + "f(1, ", ");" + inBlockTail, "self me true false", ""},
		{"a function's argument", Expr, "f(", ")", "self me true false " + zones, ""},
		{"a function's second argument", Expr, "f(1, ", ", 2)", "self me true false " + zones, ""},
		{"a function's argument with a mark behind", Expr, "f(", " + 1)", "self me true false", zones},
		{"a function's argument with a point behind", Expr, "f(", ".x)", "self me true false", zones},
		{"behind a point", Expr, "a.", "", strings.Join(allWords(), " "), ""},
		{"behind a second point", Expr, "a.b.", " + 1", strings.Join(allWords(), " "), ""},
		{"a field of a call", Pack, inBlockHead + "x = f().", ";" + inBlockTail, strings.Join(allWords(), " "), ""},
	}
}

// TestEachWordWhereANameIsAsked: a word that may not be is refused where it stands, or, where it may begin something else, behind it.
func TestEachWordWhereANameIsAsked(t *testing.T) {
	for _, p := range wordPlaces() {
		for _, w := range slices.Concat(allWords(), []string{"x", "cards", "selfs", "me2", "hits", "draws", "if_", "zone"}) {
			if w == "if" && p.what == "an effect" {
				// if () is refused within the parentheses, in which an expression is asked for.
				wantFault(t, "P10.1", p.parse, p.ahead+"if(", ");", api.ErrParse)
				continue
			}
			free := !slices.Contains(allWords(), w)
			switch {
			case free || slices.Contains(strings.Fields(p.may), w):
				if _, e, at := p.parse(cut(p.ahead + w + p.rest)); e != api.OK {
					t.Errorf("P10: %s, %s: %d, %d", w, p.what, e, at)
				}
			case slices.Contains(strings.Fields(p.elsewhere), w):
				wantFault(t, "P10", p.parse, p.ahead+w, p.rest, api.ErrParse)
			default:
				wantFault(t, "P10", p.parse, p.ahead, w+p.rest, api.ErrParse)
			}
		}
	}
}

// TestEachWordWhereAWordIsAsked: of all words those alone that the grammar names go on.
func TestEachWordWhereAWordIsAsked(t *testing.T) {
	for _, p := range []struct{ ahead, rest, may string }{
		{"", ` "A" { }`, "card"}, {`card "A" { on `, " { } }", "play die hit turn draw"}, {`card "A" { `, " 1; }", "cost power health"}, {`card "A" { `, ` "x"; }`, "tag"}, {`card "A" { `, " play { } }", "on"},
		{`card "A" { on play `, " a { } }", "when"}, {inBlockHead + "if a { } ", " { }" + inBlockTail, "else"}, {inBlockHead + "if a { } else ", " a { }" + inBlockTail, "if"}, {inBlockHead + "repeat 1 ", " i { }" + inBlockTail, "as"}, {inBlockHead + "each c ", " l { }" + inBlockTail, "in"}, {inBlockHead + "choose c ", " l { }" + inBlockTail, "in"}, {inBlockHead, ";" + inBlockTail, "stop abort"},
	} {
		for _, w := range append(allWords(), "x", "cards", "plays") {
			_, e, _ := Pack(cut(p.ahead + w + p.rest))
			if may := slices.Contains(strings.Fields(p.may), w); may != (e == api.OK) {
				t.Errorf("P10.1: %s%s%s: %d", p.ahead, w, p.rest, e)
			}
		}
	}
}
