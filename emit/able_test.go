package emit_test

import (
	"fmt"
	"strings"
	"testing"

	"tableau/api"
	"tableau/check"
	"tableau/emit"
)

// TestExamples is the rows of the document's section Examples.
func TestExamples(t *testing.T) {
	ints, texts := []int64{0, 1, 5}, []string{"Fox", "beast"}
	for _, c := range [][2]string{
		{"on play { mark(self, 5); }", "0 load 0, 2 push 2, 5 do 6, 7 stop"},
		{"on play when me.out { stop; }", "0 load 1, 2 field 8, 4 unless 8, 7 stop, 8 stop"},
		{"on play { if 1 < 5 || false { } else { abort; } }", "0 push 1, 3 push 2, 6 lt, 7 unless 14, 10 true, 11 jump 15, 14 false, 15 unless 21, 18 jump 22, 21 abort, 22 stop"},
		{"on play { repeat 5 as i { } }", "0 push 0, 3 store 2, 5 load 2, 7 push 2, 10 lt, 11 unless 25, 14 load 2, 16 push 1, 19 add, 20 store 2, 22 jump 5, 25 stop"},
		{"on play { each c in self.place.cards { hit(c, 1); } }", "0 load 0, 2 field 5, 4 field 10, 6 store 3, 8 push 0, 11 store 4, 13 each 3 4 30, 18 store 2, 20 load 2, 22 push 1, 25 do 3, 27 jump 13, 30 stop"},
		{"on play { choose c in self.place.cards { } else { stop; } }", "0 load 0, 2 field 5, 4 field 10, 6 choose 14, 9 store 2, 11 jump 15, 14 stop, 15 stop"},
		{`on play { if is(self, "beast") != true { } }`, "0 load 0, 2 is 1, 5 true, 6 eq 2, 8 not, 9 unless 12, 12 stop"},
	} {
		b, why := emit.Able(able(t, c[0]), ints, texts)
		if why != api.OK || told(b) != c[1] {
			t.Errorf("P17.1: %s: %d, %s, not %s", c[0], int(why), told(b), c[1])
		}
	}
	wantRefused(t, "the first one with the ints 0 1", able(t, "on play { mark(self, 5); }"), ints[:2], texts, api.ErrPool)
}

// TestNodes is the table of nodes, each row alone, beside the document's account of it.
func TestNodes(t *testing.T) {
	ints, texts := []int64{7, 1, 0, 5}, []string{"b", "a"}
	for _, c := range [][2]string{
		{"", ""},
		{"let n = 7;", "0 push 0, 3 store 2"},
		{"let b = true; let c = false; let d = c;", "0 true, 1 store 2, 3 false, 4 store 3, 6 load 3, 8 store 4"},
		{"let n = -5; n = -n;", "0 push 3, 3 neg, 4 store 2, 6 load 2, 8 neg, 9 store 2"},
		{"let b = !me.out;", "0 load 1, 2 field 8, 4 not, 5 store 2"},
		{"let n = 7 + 5;", "0 push 0, 3 push 3, 6 add, 7 store 2"},
		{"let n = 7 - 5;", "0 push 0, 3 push 3, 6 sub, 7 store 2"},
		{"let n = 7 * 5;", "0 push 0, 3 push 3, 6 mul, 7 store 2"},
		{"let n = 7 / 5;", "0 push 0, 3 push 3, 6 div, 7 store 2"},
		{"let n = 7 % 5;", "0 push 0, 3 push 3, 6 rem, 7 store 2"},
		{"let b = 7 < 5;", "0 push 0, 3 push 3, 6 lt, 7 store 2"},
		{"let b = 7 <= 5;", "0 push 0, 3 push 3, 6 le, 7 store 2"},
		{"let b = 7 > 5;", "0 push 0, 3 push 3, 6 gt, 7 store 2"},
		{"let b = 7 >= 5;", "0 push 0, 3 push 3, 6 ge, 7 store 2"},
		{"let b = 7 == 5;", "0 push 0, 3 push 3, 6 eq 1, 8 store 2"},
		{"let b = 7 != 5;", "0 push 0, 3 push 3, 6 eq 1, 8 not, 9 store 2"},
		{"let b = true == false;", "0 true, 1 false, 2 eq 2, 4 store 2"},
		{"let b = self == self;", "0 load 0, 2 load 0, 4 eq 3, 6 store 2"},
		{"let b = me != me;", "0 load 1, 2 load 1, 4 eq 4, 6 not, 7 store 2"},
		{"let b = self.place == self.place;", "0 load 0, 2 field 5, 4 load 0, 6 field 5, 8 eq 5, 10 store 2"},
		{"let b = true || false;", "0 true, 1 unless 8, 4 true, 5 jump 9, 8 false, 9 store 2"},
		{"let b = false && true;", "0 false, 1 unless 8, 4 true, 5 jump 9, 8 false, 9 store 2"},
		{"let n = self.place.cards.count;", "0 load 0, 2 field 5, 4 field 10, 6 field 12, 8 store 2"},
		{"let p = next(me);", "0 load 1, 2 next, 3 store 2"},
		{"let z = zone(me, deck);", "0 load 1, 2 zone 0, 4 store 2"},
		{"let z = zone(next(me), grave);", "0 load 1, 2 next, 3 zone 3, 5 store 2"},
		{"let n = random(7);", "0 push 0, 3 random, 4 store 2"},
		{"let c = top(self.place);", "0 load 0, 2 field 5, 4 top, 5 store 2"},
		{"let b = has(self.place.cards, self);", "0 load 0, 2 field 5, 4 field 10, 6 load 0, 8 has, 9 store 2"},
		{`let b = is(self, "a");`, "0 load 0, 2 is 1, 5 store 2"},
		{"let n = abs(7);", "0 push 0, 3 abs, 4 store 2"},
		{"let n = min(7, 5);", "0 push 0, 3 push 3, 6 min, 7 store 2"},
		{"let n = max(7, 5);", "0 push 0, 3 push 3, 6 max, 7 store 2"},
		{"move(self, self.place);", "0 load 0, 2 load 0, 4 field 5, 6 do 0"},
		{"put(self, self.place);", "0 load 0, 2 load 0, 4 field 5, 6 do 1"},
		{"draw(me);", "0 load 1, 2 do 2"},
		{"hit(self, 7);", "0 load 0, 2 push 0, 5 do 3"},
		{"harm(me, 7);", "0 load 1, 2 push 0, 5 do 4"},
		{"gain(me, 7);", "0 load 1, 2 push 0, 5 do 5"},
		{"mark(self, 7);", "0 load 0, 2 push 0, 5 do 6"},
		{"grow(self, 7);", "0 load 0, 2 push 0, 5 do 7"},
		{"shuffle(self.place);", "0 load 0, 2 field 5, 4 do 8"},
		{"if true { draw(me); }", "0 true, 1 unless 8, 4 load 1, 6 do 2"},
		{"if true { }", "0 true, 1 unless 4"},
		{"if true { stop; } else { abort; }", "0 true, 1 unless 8, 4 stop, 5 jump 9, 8 abort"},
		{"if true { } else { }", "0 true, 1 unless 7, 4 jump 7"},
		{"if true { stop; } else if false { abort; } else { stop; }", "0 true, 1 unless 8, 4 stop, 5 jump 17, 8 false, 9 unless 16, 12 abort, 13 jump 17, 16 stop"},
		{"repeat 0 as i { draw(me); }", "0 push 2, 3 store 2, 5 load 2, 7 push 2, 10 lt, 11 unless 29, 14 load 1, 16 do 2, 18 load 2, 20 push 1, 23 add, 24 store 2, 26 jump 5"},
		{"each c in self.place.cards { }", "0 load 0, 2 field 5, 4 field 10, 6 store 3, 8 push 2, 11 store 4, 13 each 3 4 23, 18 store 2, 20 jump 13"},
		{"choose c in self.place.cards { hit(c, 7); }", "0 load 0, 2 field 5, 4 field 10, 6 choose 18, 9 store 2, 11 load 2, 13 push 0, 16 do 3"},
		{"choose c in self.place.cards { stop; } else { abort; }", "0 load 0, 2 field 5, 4 field 10, 6 choose 15, 9 store 2, 11 stop, 12 jump 16, 15 abort"},
		{"stop; abort; stop;", "0 stop, 1 abort, 2 stop"},
	} {
		a := able(t, "on turn { "+c[0]+" }")
		b, why := emit.Able(a, ints, texts)
		want := c[1] + fmt.Sprint(", ", len(b)-1, " stop")
		if want = strings.TrimPrefix(want, ", "); why != api.OK || told(b) != want {
			t.Errorf("P17.1: %s: %d, %s, not %s", c[0], int(why), told(b), want)
		}
		wantCode(t, c[0], a, ints, texts, accountOf(a, ints, texts))
	}
}

// TestWithin is each expression, and each statement, within others.
func TestWithin(t *testing.T) {
	ints, texts := []int64{0, 1, 2, 3, 4}, []string{"x"}
	want := func(line string) {
		t.Helper()
		a := able(t, line)
		wantCode(t, line, a, ints, texts, accountOf(a, ints, texts))
	}
	conditions := []string{
		"true || false || true", "true || (false || true)", "true && false && true", "true && (false || me.out) && !true", "!(1 < 2 || 3 <= 4)",
		"(1 == 2) == (3 != 4)", "(1 == 2) != (self == self)", `is(top(self.place), "x") || has(zone(me, hand).cards, top(self.place))`,
	}
	for _, c := range conditions {
		for _, frame := range []string{"when # { }", "when # { stop; }", "{ if # { } }", "{ let b = #; b = b == #; }", "when !# && # { }"} {
			want("on play " + strings.ReplaceAll(frame, "#", "("+c+")"))
		}
	}
	bodies := []string{"", "stop;", "abort;", "draw(me);", "if true { stop; } else { draw(me); }"}
	for _, e := range []string{"1 + 2 * 3", "(1 + 2) * 3", "1 - (2 - 3)", "-(-1)", "abs(min(1, max(2, -3)))", "random(random(4))", "top(zone(next(next(me)), deck)).power"} {
		for _, frame := range []string{"let y = #;", "gain(me, #);", "let y = 1; y = y + #;", "if # > 2 { stop; }", "let y = min(#, 2);", "each c in zone(me, hand).cards { hit(c, #); }"} {
			bodies = append(bodies, strings.ReplaceAll(frame, "#", e))
		}
	}
	for i, body := range bodies {
		for _, frame := range []string{"#", "repeat 3 as i { # }", "each d in self.place.cards { # }", "choose d in self.place.cards { # }", "choose d in self.place.cards { } else { # }", "if false { # } else if true { # } else { # }"} {
			inner := strings.ReplaceAll(frame, "#", body)
			want("on play { " + inner + " }")
			want("on play when " + conditions[i%8] + " { if true { " + inner + " } " + inner + " }")
			want("on play { repeat 2 as j { if " + conditions[(i+3)%8] + " { " + inner + " stop; } } }")
		}
	}
}

// TestLoopsWithinLoops is loops up to as many as there are slots for, one within the other.
func TestLoopsWithinLoops(t *testing.T) {
	ints := []int64{3, 1, 0}
	frames := []string{"repeat 3 as # { %s }", "each # in self.place.cards { %s }", "choose # in zone(me, hand).cards { %s } else { stop; }", "repeat 1 as # { %s } draw(me);"}
	for many := 1; many <= 18; many++ {
		line := "draw(me);"
		for i := range many {
			frame := strings.ReplaceAll(frames[i%4], "#", fmt.Sprint("v", i))
			line = strings.ReplaceAll(frame, "%s", line)
		}
		a := able(t, "on die { "+line+" }")
		wantCode(t, fmt.Sprint(many, " loops"), a, ints, nil, accountOf(a, ints, nil))
	}
	line := "draw(me);"
	for i := range 30 {
		line = fmt.Sprint("repeat 3 as v", i, " { ", line, " }")
	}
	a := able(t, "on die { "+line+" }")
	wantCode(t, "30 loops", a, ints, nil, accountOf(a, ints, nil))
}

// TestFarJumps is jumps over more code than one byte of the offset tells of, on both sides of its end.
func TestFarJumps(t *testing.T) {
	ints, texts := []int64{0, 1, 2}, []string{"x"}
	frames := []string{
		"{ if true { # } }", "when true { # }", "{ if true { } else { # } draw(me); }", "{ repeat 2 as i { # } }", "{ draw(me); draw(me); each c in self.place.cards { # } }",
		"{ choose c in self.place.cards { # } else { stop; } }", "{ choose c in self.place.cards { stop; } else { # } stop; }", "{ # repeat 2 as i { if true { stop; } } }", "{ # each c in self.place.cards { abort; } }",
		"when 1 < 2 || false { # }",
	}
	for _, many := range []int{1, 50, 58, 59, 60, 61, 62, 63, 64, 65, 200, 300, 900} {
		for _, frame := range frames {
			line := "on play " + strings.ReplaceAll(frame, "#", strings.Repeat("draw(me);", many))
			a := able(t, line)
			wantCode(t, fmt.Sprint(frame, " with ", many), a, ints, texts, accountOf(a, ints, texts))
		}
	}
	for many := range 64 {
		long := strings.Repeat("1 + ", many) + "2 < 1"
		a := able(t, "on play when "+long+" || "+long+" && "+long+" { }")
		wantCode(t, long, a, ints, texts, accountOf(a, ints, texts))
	}
}

// growths make abilities of about so many nodes, no more than that.
var growths = map[string]func(nodes int) api.Ability{
	"one behind the other": func(nodes int) api.Ability {
		var l [][]api.Node
		for range (nodes - 1) / 3 {
			l = append(l, gains(whole(5)))
		}
		return does(l...)
	},
	"nots": func(nodes int) api.Ability {
		e := truth()
		for len(e)+2 <= nodes {
			e = op(api.Node{Op: api.TNot, Kind: api.KBool}, e)
		}
		return when(e)
	},
	"to the left": func(nodes int) api.Ability {
		e := truth()
		for len(e)+3 <= nodes {
			e = op(api.Node{Op: api.TOr + int8(len(e)/2%2), Kind: api.KBool}, e, truth())
		}
		return when(e)
	},
	"to the right": func(nodes int) api.Ability {
		e := truth()
		for len(e)+3 <= nodes {
			e = op(api.Node{Op: api.TAnd - int8(len(e)/2%2), Kind: api.KBool}, truth(), e)
		}
		return when(e)
	},
	"ifs": func(nodes int) api.Ability {
		a := does()
		for len(a.Tree)+3 <= nodes {
			a = does(op(api.Node{Op: api.TIf}, truth(), a.Tree))
		}
		return a
	},
	"ifs with an else": func(nodes int) api.Ability {
		s := op(api.Node{Op: api.TStop})
		for len(s)+5 <= nodes {
			s = op(api.Node{Op: api.TIf}, truth(), block(), block(s))
		}
		return does(s)
	},
}

// TestGreatest is abilities of as many nodes as may be, deep ones among them, and one node more.
func TestGreatest(t *testing.T) {
	ints := []int64{5}
	for what, grow := range growths {
		for _, nodes := range []int{1990, 1999, 2000, 2001} {
			a := grow(nodes)
			block := 0
			if a.When {
				block = len(a.Tree) - 1
			}
			for len(a.Tree) < nodes {
				a.Tree = append(a.Tree, api.Node{Op: api.TStop})
				a.Tree[block].Kids++
			}
			if len(a.Tree) != nodes || check.Able(a) != (nodes <= 2000) {
				t.Fatalf("%s: %d nodes, not %d; may it be: %v", what, len(a.Tree), nodes, check.Able(a))
			}
			if nodes > 2000 {
				wantRefused(t, what, a, ints, nil, api.ErrArg)
			} else {
				wantCode(t, what, a, ints, nil, accountOf(a, ints, nil))
			}
		}
	}
}

// TestHighest is an expression as high as may be, and one that is higher.
func TestHighest(t *testing.T) {
	for _, high := range []int{255, 256, 257} {
		e := whole(5)
		for range high - 1 {
			e = op(api.Node{Op: api.TAdd, Kind: api.KInt}, whole(5), e)
		}
		a := does(op(api.Node{Op: api.TIf}, op(api.Node{Op: api.TLt, Kind: api.KBool}, e, whole(5)), block()))
		if high > 256 {
			wantRefused(t, "too high", a, []int64{5}, nil, api.ErrArg)
			continue
		}
		wantCode(t, "high", a, []int64{5}, nil, accountOf(a, []int64{5}, nil))
	}
}

// TestMayNotBe is abilities that may not be: that is told ahead of what is missing in the pools.
func TestMayNotBe(t *testing.T) {
	slots := []int8{api.KCard, api.KPlayer}
	seven := gains(whole(7))
	for what, a := range map[string]api.Ability{
		"nothing":                 {},
		"no tree":                 {Slots: slots},
		"no slots":                {Tree: block(seven)},
		"a slot too many":         {Slots: append(slots, api.KInt), Tree: block(seven)},
		"an event that is none":   {On: 5, Slots: slots, Tree: block(seven)},
		"an event below 0":        {On: -1, Slots: slots, Tree: block(seven)},
		"a condition too many":    {Slots: slots, Tree: append(truth(), block(seven)...)},
		"a condition that is not": {Slots: slots, When: true, Tree: block(seven)},
		"a condition of an int":   {Slots: slots, When: true, Tree: append(whole(7), block()...)},
		"two blocks":              {Slots: slots, Tree: append(block(seven), block()...)},
		"a tree cut off":          {Slots: slots, Tree: block(seven)[:3]},
		"a number below 0":        does(gains(whole(-7))),
		"a wrong kind":            does(gains(truth())),
		"no such effect":          does(op(api.Node{Op: api.TDo, N: 9}, whole(7))),
		"no such function":        does(gains(op(api.Node{Op: api.TCall, Kind: api.KInt, N: 9}, whole(7)))),
		"no such field":           does(gains(op(api.Node{Op: api.TField, Kind: api.KInt, N: 13}, whole(7)))),
		"no such node":            does(seven, op(api.Node{Op: 127})),
		"a node below 0":          does(seven, op(api.Node{Op: -128})),
		"a card as a statement":   does(seven, op(api.Node{Op: api.TCard})),
		"kids below 0":            does(seven, []api.Node{{Op: api.TBlock, Kids: -1}}),
		"a slot that is none":     does(gains(op(api.Node{Op: api.TName, Kind: api.KInt, N: 2})), seven),
		"too many rounds":         {Slots: append(slots, api.KInt), Tree: block(op(api.Node{Op: api.TRepeat, N: 256, M: 2}, block(seven)))},
		"a text of 65 bytes":      does(op(api.Node{Op: api.TIf}, asks(strings.Repeat("x", 65)), block())),
		"a text with a byte 31":   does(op(api.Node{Op: api.TIf}, asks("\x1f"), block())),
	} {
		wantRefused(t, what, a, nil, nil, api.ErrArg)
		wantRefused(t, what, a, []int64{7, -7, 256, 0, 1}, []string{"\x1f", strings.Repeat("x", 65)}, api.ErrArg)
	}
}
