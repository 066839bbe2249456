package fold_test

import (
	"fmt"
	"slices"
	"strconv"
	"strings"
	"testing"

	"tableau/api"
	"tableau/check"
	"tableau/fold"
	"tableau/tree"
)

// wantMade folds the ability of the line, holds it against the one of the other line, and runs both.
func wantMade(t *testing.T, line, made string) {
	t.Helper()
	a, want := able(t, line), able(t, made)
	b := wantFolded(t, line, a)
	if !same(b, want) {
		t.Errorf("P15.2: %s: %v, not %s: %v", line, b, made, want)
	}
	for _, answers := range [][]int64{nil, {0}, {1}, {0, 0}, {1, 0, 1, 0}} {
		for card := range 3 {
			wantAlike(t, line, a, b, game{start(), card, card % 2, answers})
		}
	}
}

// wantKept says that it is folded to itself, to the last field.
func wantKept(t *testing.T, line string) {
	t.Helper()
	wantMade(t, line, line)
	a := able(t, line)
	if b, _ := fold.Able(a); fmt.Sprint(a) != fmt.Sprint(b) {
		t.Errorf("P15.2: %s: %v, not %v", line, b, a)
	}
}

func TestExamplesOfAble(t *testing.T) {
	wantMade(t, "on play { hit(self, 2 * 3 - 7); }", "on play { hit(self, -1); }")
	wantMade(t, "on play { if 1 < 2 { draw(me); } else { abort; } }", "on play { draw(me); }")
	line := "on play { hit(self, 1 / 0); }"
	a := able(t, line)
	r := wantAlike(t, line, a, wantFolded(t, line, a), game{start(), 0, 0, nil})
	if r.End != api.Aborted || r.Err != api.ErrDivide {
		t.Errorf("P15.2: %s: %+v", line, r)
	}
	b := able(t, "on play { let x = 1; }")
	b.Slots = append(b.Slots, api.KInt)
	wantRefused(t, "a slot that no statement makes", b)
}

func TestConstantExpressions(t *testing.T) {
	for e, made := range map[string]string{
		"2 * 3 + -1": "5", "-(2 - 2)": "0", "-0": "0", "- (0 - 5)": "5", "0 - 5": "-5", "abs(-3)": "3", "min(2, max(1, 3))": "2",
		"-9223372036854775807 - 2": "-9223372036854775807 - 1", "-(-9223372036854775807 - 1)": "9223372036854775807",
		"-1 - 9223372036854775807": "-9223372036854775807 - 1", "(0 - 9223372036854775807 - 1) * 2 + 1": "-9223372036854775807",
		"me.life + 2 * 3": "me.life + 6", "2 + 3 + me.life": "5 + me.life", "me.life + 2 + 3": "me.life + 2 + 3", "-(me.life * (1 - 2))": "-(me.life * -1)",
		"random(2 + 3)": "random(5)", "min(1 + 1, me.energy)": "min(2, me.energy)", "1 / (2 - 2)": "1 / 0", "(1 + 1) / 0 + 2 * 3": "2 / 0 + 6", "1 % 0 * (1 - 1)": "1 % 0 * 0",
	} {
		wantMade(t, "on play { harm(me, "+e+"); }", "on play { harm(me, "+made+"); }")
		wantMade(t, "on play { let x = "+e+"; x = "+e+"; draw(next(me)); gain(me, x); }", ending(e, "on play { let x = "+made+"; ", "x = "+made+"; draw(next(me)); gain(me, x); }"))
	}
	for e, made := range map[string]string{
		"1 < me.life": "1 < me.life", "0 - 1 == me.energy": "-1 == me.energy", "me.out == (1 == 2)": "me.out == false", "!(me.life < 3 - 1)": "!(me.life < 2)", "(1 < 2) != has(self.place.cards, self)": "true != has(self.place.cards, self)",
	} {
		wantMade(t, "on play when "+e+" { draw(me); }", "on play when "+made+" { draw(me); }")
		wantMade(t, "on play { if "+e+" { draw(me); } else { abort; } }", "on play { if "+made+" { draw(me); } else { abort; } }")
	}
}

// ending is the beginning alone, with its end, if the expression divides by nought.
func ending(e, beginning, rest string) string {
	if strings.Contains(e, "/") || strings.Contains(e, "%") {
		return beginning + "}"
	}
	return beginning + rest
}

func TestAndOr(t *testing.T) {
	for e, made := range map[string]string{
		"true && me.out": "me.out", "me.out && true": "me.out", "false || me.out": "me.out", "me.out || false": "me.out", "!(1 < 2) || me.out && 2 > 1": "me.out",
		"me.out && false": "me.out && false", "me.out || true": "me.out || true", "random(2) == 0 && 1 > 2": "random(2) == 0 && false", "random(2) == 0 || 1 < 2": "random(2) == 0 || true",
		"me.out && 1 / 0 == 0": "me.out && 1 / 0 == 0", "me.out || 1 / 0 == 0": "me.out || 1 / 0 == 0", "true && 1 / 0 == 0 || me.out": "1 / 0 == 0", "1 / 0 == 0 && me.out": "1 / 0 == 0", "1 % 0 == 0 || me.out": "1 % 0 == 0",
		"me.out && (true && self.owner.out)": "me.out && self.owner.out", "me.out || !(true || self.owner.out)": "me.out",
	} {
		wantMade(t, "on play { let x = "+e+"; }", "on play { let x = "+made+"; }")
	}
	for e, made := range map[string]string{"false && me.out": "false", "true || me.out": "true", "!(false && random(3) == 0)": "true", "me.out && (false && me.out)": "me.out && false"} {
		wantMade(t, "on play { let x = "+e+"; }", "on play { let x = "+made+"; }")
	}
	wantMade(t, "on play { let x = 1 / 0 == 0 && random(2) == 0; }", "on play { let x = 1 / 0 == 0; }")
}

func TestKnownConditions(t *testing.T) {
	for line, made := range map[string]string{
		"when 1 < 2 { draw(me); }":                   "{ draw(me); }",
		"when 1 > 2 { draw(me); }":                   "{ }",
		"when 1 / 0 == 0 { let x = 1; draw(me); }":   "when 1 / 0 == 0 { }",
		"when 1 > 2 && me.out { let x = 1; abort; }": "{ }",
		"when me.out && 1 > 2 { draw(me); }":         "when me.out && false { draw(me); }",
		"when me.out { }":                            "when me.out { }",
	} {
		wantMade(t, "on hit "+line, "on hit "+made)
	}
	for statements, made := range map[string]string{
		"if true { }":                                                        "",
		"if false { abort; }":                                                "",
		"if false { abort; } draw(me);":                                      "draw(me);",
		"if true { harm(me, 1); draw(me); } draw(me);":                       "harm(me, 1); draw(me); draw(me);",
		"if false { abort; } else { draw(me); }":                             "draw(me);",
		"if false { abort; } else if 1 < 2 { draw(me); } else { abort; }":    "draw(me);",
		"if false { abort; } else if me.out { draw(me); } else { abort; }":   "if me.out { draw(me); } else { abort; }",
		"if me.out { draw(me); } else if true { harm(me, 1); gain(me, 1); }": "if me.out { draw(me); } else { harm(me, 1); gain(me, 1); }",
		"if me.out { draw(me); } else if false { harm(me, 1); }":             "if me.out { draw(me); }",
		"if me.out { draw(me); } else if 1 > 2 { abort; } else if me.out { harm(me, 1); } else if false { abort; }": "if me.out { draw(me); } else if me.out { harm(me, 1); }",
		"if me.out { draw(me); } else if true { }":                                              "if me.out { draw(me); }",
		"if me.out { draw(me); } else { }":                                                      "if me.out { draw(me); }",
		"if me.out { } else { draw(me); }":                                                      "if me.out { } else { draw(me); }",
		"if me.out { if true { if true { draw(me); } harm(me, 1); } gain(me, 1); }":             "if me.out { draw(me); harm(me, 1); gain(me, 1); }",
		"choose c in self.place.cards { if 2 > 1 { hit(c, 1); } } else { if 1 > 2 { abort; } }": "choose c in self.place.cards { hit(c, 1); }",
		"choose c in self.place.cards { } else { draw(me); }":                                   "choose c in self.place.cards { } else { draw(me); }",
		"each c in self.place.cards { if 1 == 1 { hit(c, 1); } }":                               "each c in self.place.cards { hit(c, 1); }",
		"if 1 / 0 == 0 { draw(me); } else { harm(me, 1); }":                                     "if 1 / 0 == 0 { }",
		"if me.out { draw(me); } else if 1 / 0 == 0 { draw(me); } else { abort; }":              "if me.out { draw(me); } else if 1 / 0 == 0 { }",
	} {
		wantMade(t, "on draw { "+statements+" }", "on draw { "+made+" }")
	}
}

func TestLoopsOfNoRound(t *testing.T) {
	for statements, made := range map[string]string{
		"repeat 0 as i { harm(me, i); }":                                        "",
		"harm(me, 1); repeat 0 as i { abort; } draw(me);":                       "harm(me, 1); draw(me);",
		"repeat 3 as i { repeat 0 as j { abort; } gain(me, i); }":               "repeat 3 as i { gain(me, i); }",
		"repeat 1 as i { gain(me, i); }":                                        "repeat 1 as i { gain(me, i); }",
		"repeat 0 as i { stop; } repeat 255 as i { mark(self, i - 1); }":        "repeat 255 as i { mark(self, i - 1); }",
		"if me.out { repeat 0 as i { } } else { repeat 0 as i { stop; } }":      "if me.out { }",
		"repeat 2 as i { } each c in self.place.cards { } draw(me);":            "repeat 2 as i { } each c in self.place.cards { } draw(me);",
		"each c in self.place.cards { repeat 0 as i { hit(c, i); } draw(me); }": "each c in self.place.cards { draw(me); }",
	} {
		wantMade(t, "on turn { "+statements+" }", "on turn { "+made+" }")
	}
}

// TestWhatIsNeverComeTo has statements behind such as nobody comes past.
func TestWhatIsNeverComeTo(t *testing.T) {
	for statements, made := range map[string]string{
		"stop; draw(me);":                                                                "stop;",
		"harm(me, 1); abort; let x = 1; stop;":                                           "harm(me, 1); abort;",
		"if me.out { stop; draw(me); } gain(me, 1);":                                     "if me.out { stop; } gain(me, 1);",
		"if me.out { stop; } else { abort; } gain(me, 1);":                               "if me.out { stop; } else { abort; }",
		"if me.out { stop; } else if self.owner.out { abort; } else { stop; } draw(me);": "if me.out { stop; } else if self.owner.out { abort; } else { stop; }",
		"if me.out { stop; } else if self.owner.out { abort; } draw(me);":                "if me.out { stop; } else if self.owner.out { abort; } draw(me);",
		"if me.out { draw(me); } else { stop; } gain(me, 1);":                            "if me.out { draw(me); } else { stop; } gain(me, 1);",
		"if true { draw(me); stop; } gain(me, 1);":                                       "draw(me); stop;",
		"if false { stop; } gain(me, 1);":                                                "gain(me, 1);",
		"repeat 3 as i { gain(me, i); stop; } draw(me);":                                 "repeat 3 as i { gain(me, i); stop; }",
		"repeat 3 as i { if i == 1 { stop; } gain(me, i); } draw(me);":                   "repeat 3 as i { if i == 1 { stop; } gain(me, i); } draw(me);",
		"repeat 0 as i { stop; } draw(me);":                                              "draw(me);",
		"each c in self.place.cards { stop; } draw(me);":                                 "each c in self.place.cards { stop; } draw(me);",
		"choose c in self.place.cards { stop; } draw(me);":                               "choose c in self.place.cards { stop; } draw(me);",
		"choose c in self.place.cards { draw(me); } else { stop; } draw(me);":            "choose c in self.place.cards { draw(me); } else { stop; } draw(me);",
		"choose c in self.place.cards { stop; } else { abort; } draw(me);":               "choose c in self.place.cards { stop; } else { abort; }",
		"hit(self, 1 / 0); draw(me);":                                                    "hit(self, 1 / 0);",
		"let x = me.life % 0; x = 2;":                                                    "let x = me.life % 0;",
		"let x = me.life / 0; x = 2;":                                                    "let x = me.life / 0;",
		"let x = 1; x = 1 / 0; draw(me);":                                                "let x = 1; x = 1 / 0;",
		"let x = me.life / me.energy; draw(me);":                                         "let x = me.life / me.energy; draw(me);",
		"let x = me.life / 2; draw(me);":                                                 "let x = me.life / 2; draw(me);",
		"gain(me, random(0)); draw(me);":                                                 "gain(me, random(0));",
		"gain(me, random(1 - 3)); draw(me);":                                             "gain(me, random(-2));",
		"gain(me, random(1)); draw(me);":                                                 "gain(me, random(1)); draw(me);",
		"gain(me, random(me.life)); draw(me);":                                           "gain(me, random(me.life)); draw(me);",
		"if me.out && 1 / 0 == 0 { } draw(me);":                                          "if me.out && 1 / 0 == 0 { } draw(me);",
		"if -(1 / 0) + me.life == 0 { stop; } draw(me);":                                 "if -(1 / 0) + me.life == 0 { }",
		"move(top(zone(me, deck)), zone(me, hand)); draw(me);":                           "move(top(zone(me, deck)), zone(me, hand)); draw(me);",
	} {
		wantMade(t, "on die { "+statements+" }", "on die { "+made+" }")
	}
}

// TestSlotsThatAreLeft has variables that go with the statements that declared them.
func TestSlotsThatAreLeft(t *testing.T) {
	for statements, made := range map[string]string{
		"if false { let x = true; each c in self.place.cards { hit(c, 1); } } let y = 2; gain(me, y);":                           "let y = 2; gain(me, y);",
		"let a = self; repeat 0 as i { let b = me; } let c = zone(me, deck); each d in c.cards { hit(d, 1); a = d; } hit(a, 1);": "let a = self; let c = zone(me, deck); each d in c.cards { hit(d, 1); a = d; } hit(a, 1);",
		"if true { let x = 4; x = x + 1; gain(me, x); } let x = true; if x { draw(me); }":                                        "let x = 4; x = x + 1; gain(me, x); let y = true; if y { draw(me); }",
		"if false { choose c in self.place.cards { abort; } } choose d in self.place.cards { repeat 2 as i { hit(d, i); } }":     "choose d in self.place.cards { repeat 2 as i { hit(d, i); } }",
		"repeat 0 as i { } repeat 2 as j { repeat 3 as k { harm(me, j * k); } }":                                                 "repeat 2 as j { repeat 3 as k { harm(me, j * k); } }",
		"repeat 0 as i { } each c in self.place.cards { each d in c.place.cards { hit(d, c.power); } } let z = me; gain(z, 1);":  "each c in self.place.cards { each d in c.place.cards { hit(d, c.power); } } let z = me; gain(z, 1);",
		"let x = 1; if me.out { stop; let y = 2; } let z = x; gain(me, z);":                                                      "let x = 1; if me.out { stop; } let z = x; gain(me, z);",
	} {
		wantMade(t, "on play { "+statements+" }", "on play { "+made+" }")
	}
}

// TestWhatStays has abilities of which nothing is known ahead, or only what is written so already.
func TestWhatStays(t *testing.T) {
	for _, line := range []string{
		"on play { }",
		"on die when me.life < 3 { draw(me); }",
		"on hit { hit(self, -1); harm(me, -9223372036854775807 - 1); gain(me, 9223372036854775807); }",
		"on turn { let x = -5; let y = true; let z = false; x = 0; if y == z { mark(self, x); } }",
		"on draw { each c in zone(next(me), hand).cards { choose d in c.place.cards { move(d, self.place); } else { put(c, c.place); } } shuffle(zone(me, deck)); }",
		"on play { hit(self, 1 / 0); }",
		"on play { grow(self, min(2, me.life) - max(-3, 2 % me.energy) + abs(self.marks)); if is(self, \"beast\") || has(self.place.cards, self) { stop; } }",
	} {
		wantKept(t, line)
	}
}

// TestWhatFollows has runs that abort, ask, and make events.
func TestWhatFollows(t *testing.T) {
	for line, want := range map[string]string{
		"on play { draw(me); if false { stop; } hit(self, 1 / (3 - 3)); }":                        "1 60 0 0 1",
		"on play { draw(me); if 1 < 2 { abort; } else { stop; } }":                                "1 63 0 0 1",
		"on play { harm(me, 1); gain(me, random(3 - 3)); }":                                       "1 62 0 0 1",
		"on play { let x = top(zone(me, grave)).power * (1 - 1); }":                               "1 61 0 0 0",
		"on play { if random(2 + 2) < 0 && false { } else if true { draw(me); } }":                "2 0 4 0 0",
		"on play { if true { choose c in zone(me, deck).cards { hit(c, 2 - 1); } } }":             "2 0 2 0 0",
		"on play { repeat 2 as i { if i == 3 - 2 { draw(me); } } gain(me, 2 * 2); stop; abort; }": "0 0 0 0 2",
		"on play { if me.out && 1 / 0 == 0 { abort; } draw(me); }":                                "0 0 0 0 1",
		"on play when 1 == 1 { draw(me); draw(me); }":                                             "0 0 0 0 2",
		"on play when 1 != 1 { draw(me); draw(me); }":                                             "0 0 0 0 0",
	} {
		a := able(t, line)
		r := wantAlike(t, line, a, wantFolded(t, line, a), game{start(), 0, 0, nil})
		if got := fmt.Sprint(r.End, int(r.Err), r.Ask, r.Used, len(r.Trace)); got != want {
			t.Errorf("P15.2: %s: %s, not %s", line, got, want)
		}
	}
}

// TestOddNumbersOfGames has what mean.Run refuses.
func TestOddNumbersOfGames(t *testing.T) {
	line := "on play { if 1 < 2 { draw(me); } }"
	a := able(t, line)
	b := wantFolded(t, line, a)
	for _, n := range []int{-1, 3, 1 << 40} {
		wantAlike(t, line, a, b, game{start(), n, 0, nil})
		wantAlike(t, line, a, b, game{start(), 0, n, nil})
	}
	odd, far := start(), start()
	odd.Turn = 0
	far.Cards[1].Kind = 2
	wantAlike(t, line, a, b, game{odd, 0, 0, nil})
	wantAlike(t, line, a, b, game{far, 0, 0, nil})
}

func wantRefused(t *testing.T, what string, a api.Ability) {
	t.Helper()
	if check.Able(a) {
		t.Fatalf("%s: it may be: %v", what, a)
	}
	b, why := fold.Able(a)
	if why != api.ErrArg || b.On != 0 || len(b.Slots) > 0 || b.When || len(b.Tree) > 0 {
		t.Errorf("P15.2: %s: %v, %d, not ErrArg", what, b, int(why))
	}
}

func TestWhatMayNotBe(t *testing.T) {
	line := "on play when 1 < 2 { let x = 1; repeat 3 as i { x = x + i; } each c in self.place.cards { hit(c, x); } if is(self, \"a\") { stop; } else { draw(next(me)); } }"
	wantRefused(t, "the zero ability", api.Ability{})
	for what, change := range map[string]func(a *api.Ability){
		"On below":                      func(a *api.Ability) { a.On = -1 },
		"On above":                      func(a *api.Ability) { a.On = 5 },
		"no condition":                  func(a *api.Ability) { a.When = false },
		"no slots":                      func(a *api.Ability) { a.Slots = nil },
		"one slot less":                 func(a *api.Ability) { a.Slots = a.Slots[:len(a.Slots)-1] },
		"one slot more":                 func(a *api.Ability) { a.Slots = append(a.Slots, api.KInt) },
		"another slot":                  func(a *api.Ability) { a.Slots[2] = api.KBool },
		"no tree":                       func(a *api.Ability) { a.Tree = nil },
		"no block":                      func(a *api.Ability) { a.Tree = a.Tree[:3] },
		"no end":                        func(a *api.Ability) { a.Tree = a.Tree[:len(a.Tree)-1] },
		"more behind":                   func(a *api.Ability) { a.Tree = append(a.Tree, op(api.Node{Op: api.TBlock})...) },
		"fewer kids":                    func(a *api.Ability) { a.Tree[3].Kids = -1 },
		"many kids":                     func(a *api.Ability) { a.Tree[3].Kids = 1 << 40 },
		"a name":                        func(a *api.Ability) { a.Tree[4].Text = "x" },
		"a place below":                 func(a *api.Ability) { a.Tree[4].At = -1 },
		"a kind":                        func(a *api.Ability) { a.Tree[0].Kind = api.KInt },
		"a condition of the other kind": func(a *api.Ability) { a.Tree = append(whole(1), a.Tree[3:]...) },
	} {
		a := able(t, line)
		change(&a)
		wantRefused(t, what, a)
	}
	a := able(t, line)
	for at := range a.Tree {
		for _, n := range []int64{least, -1, 256, most} {
			for _, change := range []func(n *api.Node, x int64){func(n *api.Node, x int64) { n.N = x }, func(n *api.Node, x int64) { n.M = x }, func(n *api.Node, x int64) { n.Kids = int(x) }, func(n *api.Node, x int64) { n.Op = int8(x) }} {
				odd := a
				odd.Tree = slices.Clone(a.Tree)
				change(&odd.Tree[at], n)
				if !check.Able(odd) {
					wantRefused(t, fmt.Sprint("the node ", at), odd)
				}
			}
		}
	}
}

// chain is n times the sign around the expression.
func chain(n int, sign api.Node, e []api.Node) []api.Node {
	l := slices.Repeat(op(sign, nil), n)
	return append(l, e...)
}

func power() []api.Node {
	return op(api.Node{Op: api.TField, Kind: api.KInt}, op(api.Node{Op: api.TName, Kind: api.KCard}))
}

// wound is the statement, or block, with so much wound around it that no ability can be heavier.
func wound(l []api.Node, around func(l []api.Node) []api.Node) []api.Node {
	for len(l) < api.MaxWeight-5 {
		l = around(l)
	}
	return l
}

// heavy is abilities at the limits, or near them.
func heavy() map[string]api.Ability {
	minus := api.Node{Op: api.TNeg, Kind: api.KInt}
	block := func(l ...[]api.Node) []api.Node { return op(api.Node{Op: api.TBlock}, l...) }
	choice := func(l ...[]api.Node) []api.Node { return op(api.Node{Op: api.TIf}, l...) }
	return map[string]api.Ability{
		"signs":               gains(chain(api.MaxWeight-4, minus, whole(3))),
		"signs of a power":    gains(chain(api.MaxWeight-5, minus, power())),
		"sums on the left":    gains(sums(false, (api.MaxWeight-4)/2, whole(1), whole(0))),
		"sums of powers":      gains(sums(false, 600, power(), power())),
		"sums on the right":   gains(sums(true, api.MaxStack-2, whole(1), whole(0))),
		"powers on the right": gains(sums(true, api.MaxStack-2, power(), whole(5))),
		"the least number":    gains(sums(true, api.MaxStack-3, ints(api.TNeg, whole(most)), num(least))),
		"statements":          does(slices.Repeat([][]api.Node{op(api.Node{Op: api.TStop})}, api.MaxWeight-1)...),
		"known ifs":           does(wound(choice(boolean(true), block()), func(l []api.Node) []api.Node { return choice(boolean(true), block(l)) })),
		"open ifs":            does(wound(choice(out(), block()), func(l []api.Node) []api.Node { return choice(out(), block(l)) })),
		"ifs behind else":     does(wound(choice(out(), block()), func(l []api.Node) []api.Node { return choice(out(), block(), l) })),
		"known behind else":   does(wound(choice(out(), block()), func(l []api.Node) []api.Node { return choice(boolean(false), block(), l) })),
	}
}

func out() []api.Node {
	return op(api.Node{Op: api.TField, Kind: api.KBool, N: 8}, op(api.Node{Op: api.TName, Kind: api.KPlayer, N: 1}))
}

// sums is the expression last with e added n times, ahead of it or behind it.
func sums(right bool, n int, e, last []api.Node) []api.Node {
	for range n {
		if right {
			last = ints(api.TAdd, e, last)
		} else {
			last = ints(api.TAdd, last, e)
		}
	}
	return last
}

func TestHeavyAndDeep(t *testing.T) {
	all := heavy()
	for what, a := range all {
		if !check.Able(a) {
			t.Fatalf("%s: it may not be", what)
		}
		b := wantFolded(t, what, a)
		for player := range 2 {
			wantAlike(t, what, a, b, game{start(), player, player, nil})
		}
	}
	for what, size := range map[string]int{"signs": 4, "signs of a power": api.MaxWeight, "sums on the left": 4, "sums on the right": 4, "the least number": 7, "statements": 2, "known ifs": 1, "known behind else": 5} {
		b, _ := fold.Able(all[what])
		if len(b.Tree) != size {
			t.Errorf("P15.2: %s: %d nodes, not %d", what, len(b.Tree), size)
		}
	}
	wantRefused(t, "one sign too many", gains(chain(api.MaxWeight-3, api.Node{Op: api.TNeg, Kind: api.KInt}, whole(3))))
	wantRefused(t, "one sum too high", gains(sums(true, api.MaxStack-1, whole(1), whole(0))))
}

// TestAllSlots has as many variables as may be; every other one goes.
func TestAllSlots(t *testing.T) {
	src, made := "on play { ", "on play { "
	for i := range (api.MaxSlots - 2) / 2 {
		kept := "let x" + strconv.Itoa(i) + " = self.power; "
		src += "if false { let y = true; } " + kept
		made += kept
	}
	for i := range (api.MaxSlots - 2) / 2 {
		last := "gain(me, x" + strconv.Itoa(i) + "); "
		src, made = src+last, made+last
	}
	wantMade(t, src+"}", made+"}")
	if a := able(t, src+"}"); len(a.Slots) != api.MaxSlots {
		t.Errorf("%d slots", len(a.Slots))
	}
	if n := len(wantFolded(t, src, able(t, src+"}")).Slots); n != 2+(api.MaxSlots-2)/2 {
		t.Errorf("P15.2: %d slots are left", n)
	}
}

// TestPlaces says that what stays keeps its place, and what comes stands at the place of what it stands for.
func TestPlaces(t *testing.T) {
	line := "on play when me.out { let x = 1 + 1; hit(self, x * (0 - 5)); }"
	a, b := able(t, line), wantFolded(t, line, able(t, line))
	at := func(l []api.Node, op int8) int {
		return l[slices.IndexFunc(l, func(n api.Node) bool { return n.Op == op })].At
	}
	for _, op := range []int8{api.TField, api.TBlock, api.TLet, api.TDo, api.TMul} {
		if at(a.Tree, op) != at(b.Tree, op) {
			t.Errorf("the node %d stood at %d, stands at %d", op, at(a.Tree, op), at(b.Tree, op))
		}
	}
	if at(b.Tree, api.TNum) != at(a.Tree, api.TAdd) || at(b.Tree, api.TNeg) != at(a.Tree, api.TSub) || !tree.Same(b.Tree, able(t, "on play when me.out { let x = 2; hit(self, x * -5); }").Tree) {
		t.Errorf("the places of %v, folded %v", a, b)
	}
	a = gains(op(api.Node{Op: api.TSub, Kind: api.KInt, At: 7}, num(least), whole(5)))
	for _, n := range wantFolded(t, "the least number", a).Tree[3:] {
		if n.At != 7 {
			t.Errorf("the least number stands at %d, not 7", n.At)
		}
	}
}
