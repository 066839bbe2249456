package mean_test

import (
	"slices"
	"strconv"
	"strings"
	"testing"

	"tableau/api"
	"tableau/check"
)

// gains is the texts of gains of the player 0, one by one, from no energy on.
func gains(by ...int32) []string {
	var l []string
	var was int32
	for _, n := range by {
		l = append(l, changed("player", 0, "energy", was, was+n))
		was += n
	}
	return l
}

// marks is the texts of marks 1 on these cards, none of which has any.
func marks(cards ...int) []string {
	var l []string
	for _, c := range cards {
		l = append(l, changed("card", c, "marks", 0, 1))
	}
	return l
}

func TestConditions(t *testing.T) {
	for on, w := range map[string]want{
		"when true { gain(me, 1); }":                                         done(0, gains(1)...),
		"when false { gain(me, 1); }":                                        done(0),
		"when false { abort; }":                                              done(0),
		"when true { abort; }":                                               aborted(api.ErrAbort, 0),
		"when me.life == 20 { gain(me, 1); }":                                done(0, gains(1)...),
		"when 1 / 0 == 1 { gain(me, 1); }":                                   aborted(api.ErrDivide, 0),
		"when random(0) == 0 { gain(me, 1); }":                               aborted(api.ErrRandom, 0),
		"when top(zone(me, grave)) == self { gain(me, 1); }":                 aborted(api.ErrEmpty, 0),
		"when random(4) == 0 { gain(me, 1); }":                               starved(4, 0),
		"when true || random(4) == 0 { gain(me, 1); }":                       done(0, gains(1)...),
		"when is(self, \"beast\") && self.owner == me { gain(me, 1); stop;}": done(0, gains(1)...),
	} {
		wantRun(t, on, fox(t, "on play "+on), start(), 0, 0, nil, w)
	}
	d := fox(t, "on play when random(4) == 2 { gain(me, random(3)); }")
	for _, c := range []struct {
		answers []int64
		w       want
	}{{[]int64{2, 1}, done(2, gains(1)...)}, {[]int64{1, 1}, done(1)}, {[]int64{2}, starved(3, 1)}, {[]int64{4}, starved(4, 0)}} {
		wantRun(t, "a condition that asks", d, start(), 0, 0, c.answers, c.w)
	}
}

func TestLetAndSet(t *testing.T) {
	for src, w := range map[string]want{
		"let x = 2; gain(me, x); x = x * 3; gain(me, x); x = x - x; gain(me, x);":                                                           done(0, gains(2, 6)...),
		"let x = 1; let y = x; x = 5; gain(me, y); gain(me, x);":                                                                            done(0, gains(1, 5)...),
		"let a = true; let b = !a; a = b; if a { abort; } if !b { gain(me, 1); }":                                                           done(0, gains(1)...),
		"let c = top(zone(next(me), board)); mark(c, 1); c = self; mark(c, 1); mark(self, 1);":                                              done(0, "card 2 marks 0 to 1", "card 0 marks 0 to 1", "card 0 marks 1 to 2"),
		"let p = next(me); harm(p, 1); p = next(p); harm(p, 1);":                                                                            done(0, "player 1 life 20 to 19", "player 0 life 20 to 19"),
		"let z = zone(me, hand); move(self, z); z = zone(me, grave); move(self, z);":                                                        done(0, moved(0, 0, 0, 1, 0), moved(0, 1, 0, 3, 0)),
		"let l = zone(me, deck).cards; let m = l; l = zone(next(me), board).cards; each c in l { mark(c, 1); } each c in m { mark(c, 1); }": done(0, marks(2, 0, 1)...),
		"let x = 1; if true { let y = 2; x = y; } let z = 3; gain(me, x * 10 + z);":                                                         done(0, gains(23)...),
		"let x = 1; repeat 4 as i { x = x * 2; } gain(me, x);":                                                                              done(0, gains(16)...),
		"repeat 2 as i { let x = i * 10 + 1; gain(me, x); x = 5; }":                                                                         done(0, gains(1, 11)...),
		"let x = 1; x = 1 / 0; gain(me, 1);":                                                                                                aborted(api.ErrDivide, 0),
		"let x = random(0); gain(me, 1);":                                                                                                   aborted(api.ErrRandom, 0),
		"let x = 1; x = random(7); gain(me, 1);":                                                                                            starved(7, 0),
		"let l = zone(me, deck).cards; move(self, zone(me, hand)); gain(me, l.count); l = zone(me, deck).cards; gain(me, l.count);":         done(0, append([]string{moved(0, 0, 0, 1, 0)}, gains(2, 1)...)...),
	} {
		wantDoes(t, src, nil, w)
	}
}

// As many variables as there may be, each in its own slot.
func TestEachSlotIsItsOwn(t *testing.T) {
	var src strings.Builder
	var by []int32
	for i := range 30 {
		src.WriteString("let v" + strconv.Itoa(i) + " = " + strconv.Itoa(i+1) + "; ")
	}
	for i := 29; i >= 0; i-- {
		src.WriteString("gain(me, v" + strconv.Itoa(i) + "); ")
		by = append(by, int32(i+1))
	}
	wantDoes(t, src.String(), nil, done(0, gains(by...)...))
}

func TestIf(t *testing.T) {
	for src, w := range map[string]want{
		"if true { gain(me, 1); } gain(me, 9);":                                                                 done(0, gains(1, 9)...),
		"if false { gain(me, 1); } gain(me, 9);":                                                                done(0, gains(9)...),
		"if true { gain(me, 1); } else { gain(me, 2); } gain(me, 9);":                                           done(0, gains(1, 9)...),
		"if false { gain(me, 1); } else { gain(me, 2); } gain(me, 9);":                                          done(0, gains(2, 9)...),
		"if true { gain(me, 1); } else if 1 / 0 == 0 { gain(me, 2); } else { gain(me, 3); } gain(me, 9);":       done(0, gains(1, 9)...),
		"if false { gain(me, 1); } else if true { gain(me, 2); } else { gain(me, 3); } gain(me, 9);":            done(0, gains(2, 9)...),
		"if false { gain(me, 1); } else if false { gain(me, 2); } else { gain(me, 3); } gain(me, 9);":           done(0, gains(3, 9)...),
		"if false { gain(me, 1); } else if false { gain(me, 2); } else if true { gain(me, 3); } gain(me, 9);":   done(0, gains(3, 9)...),
		"if false { gain(me, 1); } else if false { gain(me, 2); } else if false { gain(me, 3); } gain(me, 9);":  done(0, gains(9)...),
		"if true { } else { gain(me, 2); } gain(me, 9);":                                                        done(0, gains(9)...),
		"if 1 / 0 == 0 { gain(me, 1); } else { gain(me, 2); }":                                                  aborted(api.ErrDivide, 0),
		"if random(3) == 0 { gain(me, 1); } else { gain(me, 2); }":                                              starved(3, 0),
		"if true { stop; } gain(me, 9);":                                                                        done(0),
		"if false { } else { abort; } gain(me, 9);":                                                             aborted(api.ErrAbort, 0),
		"if true { if false { gain(me, 1); } else { gain(me, 2); } gain(me, 3); } else { gain(me, 4); }":        done(0, gains(2, 3)...),
		"if false { gain(me, 1); } else if random(3) == 0 { gain(me, 2); } else { gain(me, 3); } gain(me, 9);":  starved(3, 0),
		"if true { gain(me, 1); if true { gain(me, 2); if false { gain(me, 3); } gain(me, 4); } gain(me, 5); }": done(0, gains(1, 2, 4, 5)...),
	} {
		wantDoes(t, src, nil, w)
	}
}

func TestRepeat(t *testing.T) {
	for _, rounds := range []int{0, 1, 2, 3, 254, 255} {
		var by []int32
		for i := range rounds {
			by = append(by, int32(i+1))
		}
		wantDoes(t, "repeat "+strconv.Itoa(rounds)+" as i { gain(me, i + 1); }", nil, done(0, gains(by...)...))
	}
	for src, w := range map[string]want{
		"repeat 3 as i { gain(me, i); } gain(me, 9);":                                               done(0, gains(1, 2, 9)...),
		"repeat 3 as i { repeat 2 as j { gain(me, 10 * i + j + 1); } }":                             done(0, gains(1, 2, 11, 12, 21, 22)...),
		"repeat 0 as i { abort; } gain(me, 9);":                                                     done(0, gains(9)...),
		"repeat 3 as i { if i == 1 { stop; } gain(me, i + 1); } gain(me, 9);":                       done(0, gains(1)...),
		"repeat 3 as i { gain(me, i + 1); if i == 1 { abort; } } gain(me, 9);":                      aborted(api.ErrAbort, 0, gains(1, 2)...),
		"repeat 3 as i { gain(me, 1 / (1 - i)); }":                                                  aborted(api.ErrDivide, 0, gains(1)...),
		"repeat 3 as i { gain(me, i + 1); let x = random(3 - i); }":                                 starved(3, 0, gains(1)...),
		"repeat 2 as i { repeat 2 as j { gain(me, i + j + 1); if i == 1 { stop; } } } gain(me, 9);": done(0, gains(1, 2, 2)...),
		"let x = 0; repeat 5 as i { x = x + i; } repeat 5 as i { x = x + i; } gain(me, x);":         done(0, gains(20)...),
	} {
		wantDoes(t, src, nil, w)
	}
	wantDoes(t, "repeat 3 as i { gain(me, 1); let x = random(3 - i); }", []int64{2, 1}, starved(1, 2, gains(1, 1, 1)...))
	wantDoes(t, "repeat 3 as i { gain(me, 1); let x = random(3 - i); }", []int64{2, 1, 0, 7}, done(3, gains(1, 1, 1)...))
}

// each goes through the list as it was taken, whatever comes to its cards.
func TestEach(t *testing.T) {
	three := piled(3)
	back := piled(3)
	slices.Reverse(back.Zones[0])
	for src, w := range map[string]want{
		"each c in zone(me, hand).cards { abort; } gain(me, 9);":                                                                  done(0, gains(9)...),
		"each c in zone(me, deck).cards { mark(c, 1); } gain(me, 9);":                                                             done(0, append(marks(0, 1, 2), gains(9)...)...),
		"each c in zone(me, deck).cards { move(c, zone(me, hand)); }":                                                             done(0, moved(0, 0, 0, 1, 0), moved(1, 0, 0, 1, 1), moved(2, 0, 0, 1, 2)),
		"each c in zone(me, deck).cards { put(c, zone(me, deck)); }":                                                              done(0, moved(1, 0, 1, 0, 0), moved(2, 0, 2, 0, 0)),
		"each c in zone(me, deck).cards { move(c, zone(me, deck)); }":                                                             done(0, moved(0, 0, 0, 0, 2), moved(1, 0, 0, 0, 2), moved(2, 0, 0, 0, 2)),
		"each c in zone(me, deck).cards { draw(me); mark(c, 1); }":                                                                done(0, moved(0, 0, 0, 1, 0), marks(0)[0], moved(1, 0, 0, 1, 1), marks(1)[0], moved(2, 0, 0, 1, 2), marks(2)[0]),
		"each c in zone(me, deck).cards { put(top(zone(me, deck)), zone(me, hand)); mark(c, 1); if c.place.size == 2 { stop; } }": done(0, moved(0, 0, 0, 1, 0), marks(0)[0], moved(1, 0, 0, 1, 0), marks(1)[0]),
		"each c in zone(me, deck).cards { mark(c, 1); if c.place.cards.count > 2 { abort; } }":                                    aborted(api.ErrAbort, 0, marks(0)...),
		"each c in zone(me, deck).cards { mark(c, 1); each d in zone(me, hand).cards { mark(d, 9); } move(c, zone(me, hand)); }": done(0,
			marks(0)[0], moved(0, 0, 0, 1, 0), marks(1)[0], changed("card", 0, "marks", 1, 10), moved(1, 0, 0, 1, 1), marks(2)[0], changed("card", 0, "marks", 10, 19), changed("card", 1, "marks", 1, 10), moved(2, 0, 0, 1, 2)),
		"each c in zone(me, deck).cards { each d in zone(me, deck).cards { if c != d { gain(me, 1); } } }":                     done(0, gains(1, 1, 1, 1, 1, 1)...),
		"each c in top(zone(me, hand)).place.cards { gain(me, 1); }":                                                           aborted(api.ErrEmpty, 0),
		"let l = zone(me, deck).cards; each c in l { l = zone(me, hand).cards; mark(c, 1); } gain(me, l.count + 5);":           done(0, append(marks(0, 1, 2), gains(5)...)...),
		"let n = 0; each c in zone(me, deck).cards { n = n + 1; } each c in zone(me, deck).cards { n = n + 10; } gain(me, n);": done(0, gains(33)...),
		"each c in zone(me, deck).cards { let x = random(3 - c.marks); mark(c, 1); }":                                          starved(3, 0),
	} {
		wantRun(t, src, does(t, src), three, 0, 0, nil, w)
	}
	src := "each c in zone(me, deck).cards { mark(c, 1); }"
	wantRun(t, src, does(t, src), back, 0, 0, nil, done(0, marks(2, 1, 0)...))
	src = "each c in zone(me, deck).cards { mark(c, 1); shuffle(zone(me, deck)); }"
	wantRun(t, src, does(t, src), three, 0, 0, []int64{0, 0, 0, 1, 2, 1, 1, 1}, done(6, marks(0)[0], "shuffle 0: 1 2 0", marks(1)[0], "shuffle 0: 2 1 0", marks(2)[0]))
	wantRun(t, src, does(t, src), three, 0, 0, []int64{0, 0, 0, 1, 2}, starved(2, 4, marks(0)[0], "shuffle 0: 1 2 0", marks(1)[0], "shuffle 0: 2 1 0", marks(2)[0]))
}

func TestChoose(t *testing.T) {
	s := piled(4)
	slices.Reverse(s.Zones[0])
	src := "gain(me, 1); choose c in zone(me, deck).cards { mark(c, 1); } gain(me, 1);"
	either := "gain(me, 1); choose c in zone(me, deck).cards { mark(c, 1); } else { abort; } gain(me, 1);"
	for _, src := range []string{src, either} {
		for n := range 4 {
			wantRun(t, src, does(t, src), s, 0, 0, []int64{int64(n), 99}, done(1, gains(1)[0], marks(3 - n)[0], gains(1, 1)[1]))
		}
		for _, answers := range [][]int64{nil, {-1}, {4}, {5, 0}, {-1 << 63}, {1<<63 - 1}} {
			wantRun(t, src, does(t, src), s, 0, 0, answers, starved(4, 0, gains(1)...))
		}
	}
	one := "choose c in zone(next(me), board).cards { mark(c, 1); }"
	wantDoes(t, one, []int64{0}, done(1, marks(2)...))
	wantDoes(t, one, []int64{1}, starved(1, 0))
	wantDoes(t, one, nil, starved(1, 0))
	none := "choose c in zone(me, hand).cards { gain(me, 1); } "
	for _, answers := range [][]int64{nil, {0}, {-1}} {
		wantDoes(t, none+"gain(me, 9);", answers, done(0, gains(9)...))
		wantDoes(t, none+"else { gain(me, 2); } gain(me, 9);", answers, done(0, gains(2, 9)...))
		wantDoes(t, none+"else { stop; } gain(me, 9);", answers, done(0))
		wantDoes(t, none+"else { abort; } gain(me, 9);", answers, aborted(api.ErrAbort, 0))
		wantDoes(t, none+"else { gain(me, random(0)); }", answers, aborted(api.ErrRandom, 0))
	}
	for src, w := range map[string]want{
		"choose c in zone(me, deck).cards { stop; } gain(me, 1);":                                                               done(1),
		"choose c in zone(me, deck).cards { abort; } else { } gain(me, 1);":                                                     aborted(api.ErrAbort, 1),
		"choose c in zone(me, deck).cards { choose d in zone(me, deck).cards { move(d, zone(me, hand)); mark(c, 1); } }":        done(2, moved(0, 0, 0, 1, 0), marks(1)[0]),
		"let l = zone(me, deck).cards; draw(me); draw(me); choose c in l { mark(c, 1); }":                                       done(1, moved(0, 0, 0, 1, 0), moved(1, 0, 0, 1, 1), marks(1)[0]),
		"choose c in zone(me, deck).cards { draw(me); draw(me); mark(c, 1); } choose c in zone(me, deck).cards { abort; }":      done(1, moved(0, 0, 0, 1, 0), moved(1, 0, 0, 1, 1), marks(1)[0]),
		"choose c in top(zone(me, hand)).place.cards { gain(me, 1); }":                                                          aborted(api.ErrEmpty, 0),
		"choose c in zone(me, deck).cards { } choose c in zone(me, deck).cards { mark(c, 1); }":                                 done(2, marks(0)...),
		"choose c in zone(me, deck).cards { } choose c in zone(me, deck).cards { } choose c in zone(next(me), board).cards { }": starved(1, 2),
	} {
		wantDoes(t, src, []int64{1, 0}, w)
	}
}

// stop and abort end the whole run, wherever they stand.
func TestStopAndAbort(t *testing.T) {
	for _, around := range []string{"#", "if true { # }", "if false { } else { # }", "repeat 9 as i { # }", "each c in zone(me, deck).cards { # }", "choose c in zone(me, hand).cards { } else { # }", "choose c in zone(me, deck).cards { # }",
		"repeat 9 as i { each c in zone(me, deck).cards { if i == 0 { # } } }"} {
		used := 0
		if strings.HasPrefix(around, "choose c in zone(me, deck)") {
			used = 1
		}
		src := strings.ReplaceAll(around, "#", "gain(me, 1); stop; gain(me, 2);") + " gain(me, 4);"
		wantDoes(t, src, []int64{1}, done(used, gains(1)...))
		src = strings.ReplaceAll(around, "#", "gain(me, 1); abort; gain(me, 2);") + " gain(me, 4);"
		wantDoes(t, src, []int64{1}, aborted(api.ErrAbort, used, gains(1)...))
	}
	wantDoes(t, "", nil, done(0))
	wantDoes(t, "stop; abort;", nil, done(0))
	wantDoes(t, "abort; stop;", nil, aborted(api.ErrAbort, 0))
}

// How deep an ability is doesn't matter, nor is it asked.
func TestDeepAbilities(t *testing.T) {
	slots := []int8{api.KCard, api.KPlayer}
	gain := []api.Node{{Op: api.TDo, N: 5, Kids: 2}, {Op: api.TName, N: 1, Kind: api.KPlayer}, {Op: api.TNum, N: 1, Kind: api.KInt}}
	var blocks, marks []api.Node
	for range 660 {
		blocks = append(blocks, api.Node{Op: api.TBlock, Kids: 1}, api.Node{Op: api.TIf, Kids: 2}, api.Node{Op: api.TTrue, Kind: api.KBool})
	}
	blocks = append(append(blocks, api.Node{Op: api.TBlock, Kids: 1}), gain...)
	for range 1995 {
		marks = append(marks, api.Node{Op: api.TNeg, Kind: api.KInt, Kids: 1})
	}
	marks = slices.Concat([]api.Node{{Op: api.TBlock, Kids: 1}}, gain[:2], marks, gain[2:])
	for what, c := range map[string]struct {
		tree []api.Node
		now  int32
	}{"blocks": {blocks, 1}, "signs": {marks, -1}} {
		a := api.Ability{Slots: slots, Tree: c.tree}
		if !check.Able(a) {
			t.Fatalf("%s: not Able", what)
		}
		wantRun(t, what, []api.Design{{Able: []api.Ability{a}}}, start(), 0, 0, nil, done(0, changed("player", 0, "energy", 0, c.now)))
	}
}

// Many rounds, and many events, end soon.
func TestManyRounds(t *testing.T) {
	wantDoes(t, "let n = 0; repeat 255 as i { repeat 255 as j { repeat 20 as k { n = n + 1; } } } gain(me, n);", nil, done(0, gains(255*255*20)...))
	src := "repeat 100 as i { each c in zone(me, deck).cards { move(c, zone(me, deck)); } }"
	r := sound(t, src, does(t, src), piled(256), 0, 0, nil)
	if r.End != api.Done || len(r.Trace) != 25600 || !slices.Equal(r.State.Zones[0], piled(256).Zones[0]) {
		t.Errorf("P14.2: %s: %d events, %v", src, len(r.Trace), r.State.Zones[0])
	}
}
