package parse

import (
	"strings"
	"testing"

	"tableau/api"
	"tableau/tree"
)

// opener: one of the ways by which one more is open. A source of it has the head, one so often, mid, back as often, the tail.
type opener struct {
	what            string
	parse           call
	head, one       string
	opens           int // the place, in one, of the first token that opens
	mid, back, tail string
	from            int // how many are open ahead of the first one
}

func (o opener) source(n int) string {
	return o.head + strings.Repeat(o.one, n) + o.mid + strings.Repeat(o.back, n) + o.tail
}

func openers() []opener {
	const a, z = inBlockHead, inBlockTail
	l := []opener{
		{"parentheses", Expr, "", "(", 0, "1", ")", "", 0},
		{"calls", Expr, "", "f(", 1, "", ")", "", 0},
		{"calls around a word", Expr, "", "f(", 1, "deck", ")", "", 0},
		{"second arguments", Expr, "", "f(1, ", 1, "\"x\"", ")", "", 0},
		{"arguments with more behind", Expr, "", "f(", 1, "1", ", 2)", "", 0},
		{"nots", Expr, "", "!", 0, "a", "", "", 0},
		{"minuses", Expr, "", "-", 0, "a", "", "", 0},
		{"minuses behind a not", Expr, "!", "-", 0, "a", "", "", 1},
		{"fields", Expr, "a.b", ".c", 0, "", "", "", 0},
		{"fields of parentheses", Expr, "(a).b", ".c", 0, "", "", "", 0},
		{"fields of a call", Expr, "f(g()).b", ".if", 0, "", "", "", 0},
		{"comparisons at the left", Expr, "", "(", 0, "a", "== b)", "", 0},
		{"comparisons at the right", Expr, "", "a < (", 4, "b", ")", "", 0},
		{"products of sums", Expr, "", "a * (b + ", 4, "c", ")", "", 0},
		{"parentheses in a condition", Pack, `card "A" { on hit when `, "(", 0, "a", ")", " { } }", 0},
		{"marks in a condition", Pack, `card "A" { on hit when a + b`, "+ c", 0, "", "", " { } }", 0},
		{"blocks of repeats", Pack, a, "repeat 1 as i {", 14, "", "}", z, 1},
		{"blocks of ifs", Pack, a, "if a {", 5, "stop;", "}", z, 1},
		{"blocks behind else", Pack, a, "if a { } else {", 5, "", "}", z, 1},
		{"blocks of eaches", Pack, a, "each c in l {", 12, "", "}", z, 1},
		{"blocks of chooses", Pack, a, "choose c in l {", 14, "", "}", z, 1},
		{"blocks of chooses with an else", Pack, a, "choose c in l {", 14, "", "} else { }", z, 1},
		{"blocks behind a choose's else", Pack, a, "choose c in l { } else {", 14, "", "}", z, 1},
		{"blocks ahead of an else", Pack, a, "if a {", 5, "", "} else { }", z, 1},
		{"an effect's parentheses", Pack, a + "f", "(", 0, "a", ")", "; " + z, 1},
		{"what is let", Pack, a + "let x = ", "!", 0, "a", "", "; " + z, 1},
		{"what is set", Pack, a + "x = ", "-", 0, "a", "", "; " + z, 1},
		{"what a round goes over", Pack, a + "each c in l.m", ".m", 0, "", "", "{ } " + z, 1},
	}
	for _, row := range []string{"||", "&&", "+", "-", "*", "/", "%"} {
		l = append(l, opener{"marks " + row, Expr, "a " + row + " b", " " + row + " c", 1, "", "", "", 0})
		l = append(l, opener{"marks " + row + ", in parentheses", Expr, "(((a " + row + " b", " " + row + " c", 1, "", "", ")))", 3})
	}
	return append(l,
		opener{"marks behind an else", Pack, a + "if a { } else if a || b", "|| c", 0, "", "", "{ stop; }" + z, 2})
}

// wantDepth holds that with so many of one it is parsed, and with one more refused at the token that opens that.
func wantDepth(t *testing.T, o opener, most int) {
	t.Helper()
	for n := 1; n <= most; n++ {
		if _, e, at := o.parse(cut(o.source(n))); e != api.OK {
			t.Fatalf("P10: %s, %d times: %d, %d", o.what, n, e, at)
		}
	}
	ahead := o.head + strings.Repeat(o.one, most) + o.one[:o.opens]
	for _, n := range []int{1, 2, 5, 1000} {
		src := o.source(most + n)
		wantFault(t, "P10", o.parse, ahead, src[len(ahead):], api.ErrDepth)
	}
}

func TestDepthByEachWay(t *testing.T) {
	for _, o := range openers() {
		wantDepth(t, o, 64-o.from)
	}
}

// TestDepthOfMixedRows: the marks of one rank count together.
func TestDepthOfMixedRows(t *testing.T) {
	for _, marks := range []string{"+ -", "- +", "* /", "/ %", "% *"} {
		x, y, _ := strings.Cut(marks, " ")
		row := "a" + strings.Repeat(" "+x+" b "+y+" c", 32) + " " + x + " d"
		if _, e, at := Expr(cut(row)); e != api.OK {
			t.Errorf("P10.2: 65 marks %s: %d, %d", marks, e, at)
		}
		wantFault(t, "P10.2", Expr, row+" ", y+" e "+x+" f", api.ErrDepth)
	}
}

// TestIfsBehindElse: the if behind an else opens as many as the block ahead of it did, so that its own block is the first one too many.
func TestIfsBehindElse(t *testing.T) {
	for n := 1; n < 64; n++ {
		blocks := inBlockHead + strings.Repeat("repeat 1 as i { ", n-1)
		ends := strings.Repeat("} ", n) + "}"
		ifs := strings.Repeat("if a { } else ", 64-n)
		// The blocks and all but the first if are 63 open, what stands behind the last else one more.
		for _, last := range []string{"{ } ", "{ stop; } "} {
			if _, e, at := Pack(cut(blocks + ifs + last + ends)); e != api.OK {
				t.Errorf("P10.1: %d blocks, %d ifs: %d, %d", n, 64-n, e, at)
			}
		}
		wantFault(t, "P10.1", Pack, blocks+ifs+"if a ", "{ } "+ends, api.ErrDepth)
		wantFault(t, "P10.1", Pack, blocks+ifs+"{ if a ", "{ } } "+ends, api.ErrDepth)
		// Behind the last one all of them have ended.
		if _, e, at := Pack(cut(blocks + ifs + "{ } " + ifs + "{ } stop; " + ends)); e != api.OK {
			t.Errorf("P10.1: %d blocks, twice %d ifs: %d, %d", n, 64-n, e, at)
		}
	}
}

// TestWhatEndsIsOpenNoMore: after each of the ways has ended the same number may be opened again.
func TestWhatEndsIsOpenNoMore(t *testing.T) {
	full := map[string]string{
		"parentheses": strings.Repeat("(", 64) + "1" + strings.Repeat(")", 64), "calls": strings.Repeat("f(", 64) + strings.Repeat(")", 64), "minuses": strings.Repeat("-", 64) + "1",
		"products": "1" + strings.Repeat("*1", 65), "fields": "a" + strings.Repeat(".b", 65),
	}
	for x, first := range full {
		for y, second := range full {
			for _, mark := range []string{"||", "&&", "==", "<", "+", "-"} {
				if _, e, at := Expr(cut(first + mark + second)); e != api.OK {
					t.Errorf("P10.2: %s %s %s: %d, %d", x, mark, y, e, at)
				}
			}
			// The second mark is open in what stands behind it.
			for _, row := range []string{"||", "&&", "+"} {
				if _, e, _ := Expr(cut(first + row + second + row + "1")); e != api.OK {
					t.Errorf("P10.2: %s %s %s %s 1: %d", x, row, y, row, e)
				}
				if _, e, _ := Expr(cut(first + row + "1" + row + second)); e != api.ErrDepth {
					t.Errorf("P10.2: %s %s 1 %s %s: %d, not ErrDepth", x, row, row, y, e)
				}
			}
		}
	}
	ors, nots := "a"+strings.Repeat("||a", 65), strings.Repeat("!", 64)+"a"
	for _, src := range []string{nots + "&&" + nots, nots + "||" + nots, "a" + strings.Repeat("&&a", 65) + "||a" + strings.Repeat("&&a", 65), "a" + strings.Repeat("+a", 65) + "<a" + strings.Repeat("-a", 65), "a" + strings.Repeat("*a", 65) + "-a" + strings.Repeat("%a", 65)} {
		if _, e, at := Expr(cut(src)); e != api.OK {
			t.Errorf("P10.2: %s: %d, %d", src, e, at)
		}
	}
	if _, e, at := Expr(cut("f(" + strings.Repeat("-", 63) + "1, " + strings.Repeat("-", 63) + "1, a" + strings.Repeat(".b", 64) + ", a" + strings.Repeat("+b", 64) + ", -1)")); e != api.OK {
		t.Errorf("P10.2: arguments: %d, %d", e, at)
	}
	deep := strings.Repeat("if a { ", 63) + strings.Repeat("} ", 63)
	if _, e, at := Pack(cut(inBlockHead + strings.Repeat(deep+"if a { } else if a { } ", 50) + inBlockTail)); e != api.OK {
		t.Errorf("P10.1: statements one behind the other: %d, %d", e, at)
	}
	whole := `card "A" { cost 1; on play when ` + ors + " { " + strings.Repeat("if a { ", 63) + strings.Repeat("} ", 63) + " } on die when " + nots + " { } } "
	if _, e, at := Pack(cut(strings.Repeat(whole, 20))); e != api.OK {
		t.Errorf("P10.1: cards one behind the other: %d, %d", e, at)
	}
}

// TestManyOfWhatOpensNothing: how many cards, lines, statements, arguments there are does not matter.
func TestManyOfWhatOpensNothing(t *testing.T) {
	for what, src := range map[string]string{
		"cards": strings.Repeat(`card "A" { } `, 1000), "lines": `card "A" { ` + strings.Repeat("cost 1; tag \"x\"; on die { } ", 1000) + "}",
		"statements": inBlockHead + strings.Repeat("stop; let x = -1; hit(a); if a { } else { } ", 1000) + inBlockTail, "arguments": inBlockHead + "f(1" + strings.Repeat(", (2)", 1000) + ");" + inBlockTail, "a call's arguments": inBlockHead + "x = f(1" + strings.Repeat(", deck, -2", 1000) + ");" + inBlockTail,
	} {
		if _, e, at := Pack(cut(src)); e != api.OK {
			t.Errorf("P10.1: many %s: %d, %d", what, e, at)
		}
	}
}

// TestTheFirstFromTheLeft: ErrParse and ErrDepth in one list.
func TestTheFirstFromTheLeft(t *testing.T) {
	deep := strings.Repeat("(", 64)
	for _, x := range []struct {
		ahead, rest string
		why         api.Errno
	}{
		{deep, "( ;", api.ErrDepth}, {deep, "(", api.ErrDepth}, {deep, ";", api.ErrParse}, {deep, "", api.ErrParse}, {deep + "1 ", "(", api.ErrParse}, {deep + "a", "(", api.ErrDepth}, {deep + "self", "(", api.ErrParse}, {deep, "!a", api.ErrDepth}, {deep, "-a", api.ErrDepth}, {deep + "1 ", "!", api.ErrParse}, {deep + "1 + ", "!", api.ErrParse}, {deep + "1 + ", "- 1", api.ErrDepth}, {deep + "1 - 1 ", "- 1", api.ErrDepth}, {deep + "a.b", ".1", api.ErrDepth}, {deep + "a.", "1", api.ErrParse}, {deep + "a.", ".", api.ErrParse}, {deep + "1 == 1 ", "== ((", api.ErrParse}, {deep + "a * b ", "* * c", api.ErrDepth}, {deep + "a * ", "* b", api.ErrParse}, {"1 ", "1" + deep + "(", api.ErrParse}, {deep + "1 || 1 ", "||", api.ErrDepth}, {deep, "deck (", api.ErrParse},
	} {
		wantFault(t, "P10.2", Expr, x.ahead, x.rest, x.why)
	}
	blocks := inBlockHead + strings.Repeat("if a { ", 63)
	for _, x := range []struct {
		ahead, rest string
		why         api.Errno
	}{
		{blocks + "if a ", "{", api.ErrDepth}, {blocks + "if ", "{", api.ErrParse}, {blocks, "{", api.ErrParse}, {blocks + "f", "(", api.ErrDepth}, {blocks + "self", "(", api.ErrParse}, {blocks + "let x = f", "(", api.ErrDepth}, {blocks + "let x = ", "(", api.ErrDepth}, {blocks + "let x ", "(", api.ErrParse}, {blocks + "stop", "(", api.ErrParse}, {blocks + "x = a + b ", "+", api.ErrDepth}, {blocks + "x = a < b ", "<", api.ErrParse}, {blocks + "choose c in l ", "{", api.ErrDepth}, {blocks + "} else if a ", "{ }", api.ErrDepth}, {blocks + "} else if ", "{ }", api.ErrParse}, {blocks + "} else ", "else", api.ErrParse}, {blocks + "} else { ", "{", api.ErrParse},
	} {
		wantFault(t, "P10.1", Pack, x.ahead, x.rest, x.why)
	}
	// By the order in the list, not by the places.
	for src, why := range map[string]api.Errno{deep + "( ;": api.ErrDepth, deep + "; (": api.ErrParse} {
		l := cut(src)
		for i := range l {
			l[i].At = 1000 - i
		}
		wantRefused(t, "P10.2", Expr, l, why, 1000-64)
	}
}

// TestParenthesesAboutTheBeginningOfARow: they close marks that are open in what would be written of the tree.
func TestParenthesesAboutTheBeginningOfARow(t *testing.T) {
	for _, x := range []struct {
		src   string
		depth int
		why   api.Errno
	}{
		{"a" + strings.Repeat("+a", 65), 64, api.OK},
		{"(a" + strings.Repeat("+a", 64) + ")+a", 64, api.OK},
		{"(a" + strings.Repeat("+a", 64) + ")+a+a", 65, api.ErrDepth},
		{"(a" + strings.Repeat("+a", 64) + ")" + strings.Repeat("-a", 65), 128, api.ErrDepth},
		{"((a" + strings.Repeat("*a", 63) + ")" + strings.Repeat("/a", 64) + ")" + strings.Repeat("%a", 65), 191, api.ErrDepth},
		{"(a" + strings.Repeat(".b", 64) + ")" + strings.Repeat(".b", 65), 128, api.ErrDepth},
		{"a+(a" + strings.Repeat("+a", 64) + ")", 64, api.OK},
	} {
		n, e, at := Pack(cut(`card "A" { on play when ` + x.src + " { } }"))
		if e != api.OK {
			t.Errorf("P10.1: %s: %d, %d", x.src, e, at)
			continue
		}
		if why, _ := tree.Check(n); why != x.why || tree.Depth(n) != x.depth {
			t.Errorf("P10.1: %s: its tree has the depth %d, %d; not %d, %d", x.src, tree.Depth(n), why, x.depth, x.why)
		}
	}
}
