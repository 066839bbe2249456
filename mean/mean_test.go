package mean_test

import (
	"testing"

	"tableau/api"
)

// TestExamples: the rows of the document's section Examples.
func TestExamples(t *testing.T) {
	choose := "on play { choose c in zone(me, deck).cards { put(c, zone(me, board)); } else { abort; } }"
	either := "on play { if true || 1 / 0 == 0 { gain(me, random(3)); } }"
	round := "on play { each c in zone(me, deck).cards { move(c, zone(me, deck)); } shuffle(zone(me, deck)); }"
	moves := []string{"move 0 from 0 0 to 0 1", "move 1 from 0 0 to 0 1"}
	for _, c := range []struct {
		on      string
		answers []int64
		w       want
	}{
		{"on play { hit(top(zone(next(me), board)), 3); }", nil, done(0, "card 2 damage 0 to 3")},
		{"on play when me.life < 20 { abort; }", nil, done(0)},
		{"on play { harm(me, 1); abort; }", nil, aborted(api.ErrAbort, 0, "player 0 life 20 to 19")},
		{"on play { let x = 1 / (me.energy); }", nil, aborted(api.ErrDivide, 0)},
		{"on play { move(top(zone(me, grave)), zone(me, hand)); }", nil, aborted(api.ErrEmpty, 0)},
		{choose, []int64{1}, done(1, "move 1 from 0 1 to 2 0")},
		{choose, nil, starved(2, 0)},
		{choose, []int64{2}, starved(2, 0)},
		{either, []int64{2, 9}, done(1, "player 0 energy 0 to 2")},
		{either, []int64{0}, done(1)},
		{either, []int64{3}, starved(3, 0)},
		{round, []int64{0}, done(1, moves[0], moves[1], "shuffle 0: 1 0")},
		{round, []int64{1}, done(1, moves...)},
		{round, nil, starved(2, 0, moves...)},
		{"on play { repeat 3 as i { mark(self, i - 9223372036854775807 - 9); } }", nil, done(0, "card 0 marks 0 to -1000000000")},
		{`on play { if is(self, "beast") && has(self.place.cards, self) { grow(self, min(5, abs(-7))); } stop; }`, nil, done(0, "card 0 power 1 to 6")},
	} {
		wantRun(t, c.on, fox(t, c.on), start(), 0, 0, c.answers, c.w)
	}
}

// The events that wake an ability change nothing of what it does.
func TestEveryEvent(t *testing.T) {
	for _, on := range []string{"play", "die", "hit", "turn", "draw"} {
		on = "on " + on + " { draw(me); }"
		wantRun(t, on, fox(t, on), start(), 0, 0, nil, done(0, "move 0 from 0 0 to 1 0"))
	}
}

// Each ability of each design is found by its numbers.
func TestWhichAbility(t *testing.T) {
	d := designs(t, `card "A" { on play { gain(me, 1); } on die { gain(me, 2); } on play { gain(me, 3); } } card "B" { } card "C" { on hit { gain(me, 4); } on hit { gain(me, 5); } }`)
	for _, c := range []struct {
		design, able int
		trace        string
	}{
		{0, 0, "player 0 energy 0 to 1"}, {0, 1, "player 0 energy 0 to 2"}, {0, 2, "player 0 energy 0 to 3"},
		{2, 0, "player 0 energy 0 to 4"}, {2, 1, "player 0 energy 0 to 5"},
	} {
		r, why := run(d, c.design, c.able)
		if why != api.OK || texts(r.Trace) != c.trace {
			t.Errorf("P14.2: the ability %d of %d: %d, %s, not %s", c.able, c.design, why, texts(r.Trace), c.trace)
		}
	}
}

// The slots 0 and 1 are the card and the player that are handed in, whoever owns the card and wherever it stands.
func TestSelfAndMe(t *testing.T) {
	d := does(t, "mark(self, 1); gain(me, 1); hit(self, 1);")
	for _, players := range []int{2, 3, 4} {
		s := dealt(players, 9)
		for card := range s.Cards {
			for player := range players {
				c, p := s.Cards[card], s.Players[player]
				w := done(0, changed("card", card, "marks", c.Marks, c.Marks+1), changed("player", player, "energy", p.Energy, p.Energy+1), changed("card", card, "damage", c.Damage, c.Damage+1))
				wantRun(t, "self and me", d, s, card, player, nil, w)
			}
		}
	}
}
