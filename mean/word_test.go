package mean_test

import (
	"math"
	"strconv"
	"strings"
	"testing"

	"tableau/api"
	"tableau/state"
)

// changed is the text of an event of a card, or of a player.
func changed(what string, which int, field string, was, now int32) string {
	return strings.Join([]string{what, strconv.Itoa(which), field, strconv.Itoa(int(was)), "to", strconv.Itoa(int(now))}, " ")
}

// moved is the text of a move.
func moved(card, from, fromAt, to, toAt int) string {
	return strings.Join([]string{"move", strconv.Itoa(card), "from", strconv.Itoa(from), strconv.Itoa(fromAt), "to", strconv.Itoa(to), strconv.Itoa(toAt)}, " ")
}

func words() []string { return []string{"deck", "hand", "board", "grave"} }

// someStates are states that may be, small and great.
func someStates() []api.State {
	return []api.State{start(), dealt(2, 1), dealt(2, 12), dealt(3, 17), dealt(4, 40)}
}

// Each field of each card and each player.
func TestFieldsOfCardsAndPlayers(t *testing.T) {
	for _, s := range someStates() {
		for c, card := range s.Cards {
			for field, w := range map[string]int32{"power": card.Power, "health": card.Health, "damage": card.Damage, "marks": card.Marks} {
				if n := number(t, "self."+field, s, c, 0); n != int64(w) {
					t.Errorf("P14.2: the %s of the card %d: %d, not %d", field, c, n, w)
				}
			}
			z, _, _ := state.Where(s, c)
			for p, player := range s.Players {
				wantBoolOf(t, "self.owner == me", s, c, p, card.Owner == p)
				wantBoolOf(t, "self.place.holder == me", s, c, p, z/4 == p)
				for i, word := range words() {
					wantBoolOf(t, "self.place == zone(me, "+word+")", s, c, p, z == 4*p+i)
					wantBoolOf(t, "has(zone(me, "+word+").cards, self)", s, c, p, z == 4*p+i)
				}
				wantBoolOf(t, "me.out", s, c, p, player.Out)
			}
		}
		for p, player := range s.Players {
			for field, w := range map[string]int32{"life": player.Life, "energy": player.Energy} {
				if n := number(t, "me."+field, s, 0, p); n != int64(w) {
					t.Errorf("P14.2: the %s of the player %d: %d, not %d", field, p, n, w)
				}
			}
		}
	}
}

// Fields are told as they stand then, not as they stood when the run began.
func TestFieldsAsTheyStand(t *testing.T) {
	wantDoes(t, "mark(self, 5); grow(self, self.marks * 2); hit(self, self.power + self.damage); hit(self, self.damage); gain(me, self.health); harm(me, me.energy); gain(me, me.life);", nil, done(0,
		"card 0 marks 0 to 5", "card 0 power 1 to 11", "card 0 damage 0 to 11", "card 0 damage 11 to 22", "player 0 energy 0 to 2", "player 0 life 20 to 18", "player 0 energy 2 to 20"))
	wantDoes(t, "move(self, zone(next(me), grave)); gain(me, zone(me, deck).size); gain(self.place.holder, self.place.cards.count); mark(top(zone(me, deck)), 1); gain(self.owner, 1);", nil, done(0,
		"move 0 from 0 0 to 7 0", "player 0 energy 0 to 1", "player 1 energy 0 to 1", "card 1 marks 0 to 1", "player 0 energy 1 to 2"))
	wantDoes(t, "let z = self.place; move(self, zone(me, hand)); if z == self.place { abort; } gain(me, z.size); put(self, z); if z != self.place { abort; }", nil, done(0,
		"move 0 from 0 0 to 1 0", "player 0 energy 0 to 1", "move 0 from 1 0 to 0 0"))
}

// Each field of each zone: how many cards it has, which ones, in order, and whose it is.
func TestFieldsOfZones(t *testing.T) {
	for _, s := range someStates() {
		for p := range s.Players {
			for i, word := range words() {
				zone := s.Zones[4*p+i]
				for _, field := range []string{"size", "cards.count"} {
					if n := number(t, "zone(me, "+word+")."+field, s, 0, p); n != int64(len(zone)) {
						t.Errorf("P14.2: the %s of the zone %d: %d, not %d", field, 4*p+i, n, len(zone))
					}
				}
				wantBoolOf(t, "zone(me, "+word+").holder == me", s, 0, p, true)
				wantBoolOf(t, "zone(next(me), "+word+").holder == me", s, 0, p, false)
				var l []string
				for _, c := range zone {
					l = append(l, changed("card", c, "marks", s.Cards[c].Marks, s.Cards[c].Marks+1))
				}
				src := "each c in zone(me, " + word + ").cards { mark(c, 1); }"
				wantRun(t, src, does(t, src), s, 0, p, nil, done(0, l...))
			}
		}
	}
}

// next goes round the ring, whether a player is out or not.
func TestNext(t *testing.T) {
	for _, players := range []int{2, 3, 4} {
		for out := range 1 << players {
			s := dealt(players, 3)
			for p := range s.Players {
				s.Players[p].Out = out>>p&1 == 1
			}
			for p := range s.Players {
				q := (p + 1) % players
				src := "gain(next(me), 1);"
				wantRun(t, src, does(t, src), s, 0, p, nil, done(0, changed("player", q, "energy", s.Players[q].Energy, s.Players[q].Energy+1)))
				wantBoolOf(t, "me == "+strings.Repeat("next(", players)+"me"+strings.Repeat(")", players), s, 0, p, true)
				wantBoolOf(t, "me == "+strings.Repeat("next(", players-1)+"me"+strings.Repeat(")", players-1), s, 0, p, false)
			}
		}
	}
}

// zone is the player's zone of that word; top is its first card.
func TestZoneAndTop(t *testing.T) {
	for _, s := range someStates() {
		for p := range s.Players {
			for i, word := range words() {
				src := "mark(top(zone(me, " + word + ")), 1);"
				w := aborted(api.ErrEmpty, 0)
				if l := s.Zones[4*p+i]; len(l) > 0 {
					w = done(0, changed("card", l[0], "marks", s.Cards[l[0]].Marks, s.Cards[l[0]].Marks+1))
				}
				wantRun(t, src, does(t, src), s, 0, p, nil, w)
			}
		}
	}
	wantDoes(t, "let c = top(zone(me, deck)); move(c, zone(me, grave)); mark(top(zone(me, deck)), 1); move(top(zone(me, deck)), zone(me, grave)); mark(top(zone(me, deck)), 1);", nil, aborted(api.ErrEmpty, 0,
		"move 0 from 0 0 to 3 0", "card 1 marks 0 to 1", "move 1 from 0 0 to 3 1"))
}

func TestHas(t *testing.T) {
	for expr, w := range map[string]bool{
		"has(zone(me, deck).cards, self)": true, "has(zone(me, hand).cards, self)": false, "has(zone(next(me), board).cards, self)": false,
		"has(zone(next(me), board).cards, top(zone(next(me), board)))": true, "has(zone(me, deck).cards, top(zone(next(me), board)))": false, "has(self.place.cards, top(self.place))": true,
	} {
		wantBool(t, expr, w)
	}
	// A list stays as it was taken: a card that has gone is still in it, one that has come is not.
	wantDoes(t, "let l = zone(me, deck).cards; let m = zone(me, hand).cards; move(self, zone(me, hand)); if has(l, self) && !has(m, self) && !has(zone(me, deck).cards, self) && has(zone(me, hand).cards, self) { gain(me, l.count * 10 + m.count); }", nil,
		done(0, "move 0 from 0 0 to 1 0", "player 0 energy 0 to 20"))
}

// is asks the tags of the design whose number is the card's Kind, whichever design's ability is done.
func TestIs(t *testing.T) {
	d := designs(t, `card "A" { tag "x"; tag "y"; on play { let n = 0; if is(self, "x") { n = n + 1; } if is(self, "y") { n = n + 2; } if is(self, "z") { n = n + 4; } if is(self, "") { n = n + 8; } if is(self, "X") { n = n + 16; } if is(self, "x ") { n = n + 32; } if is(self, "A") { n = n + 64; } gain(me, n + 1); } }
		card "B" { tag "z"; tag "x"; } card "C" { } card "D" { tag ""; tag "X"; tag "x "; } card "E" { tag "A"; }`)
	for kind, n := range []int32{3, 5, 0, 56, 64} {
		s := start()
		s.Cards[0].Kind = (kind + 1) % 5
		s.Cards[2].Kind = kind
		wantRun(t, "is", d, s, 2, 1, nil, done(0, changed("player", 1, "energy", 0, n+1)))
	}
}

// random asks for an answer below its number, and is it.
func TestRandom(t *testing.T) {
	for _, n := range []int64{math.MinInt64, math.MinInt64 + 1, -1000, -1, 0} {
		for _, answers := range [][]int64{nil, {0}, {n}, {-1}, {0, 1, 2}} {
			wantDoes(t, "gain(me, 1); let x = random("+literal(n)+"); gain(me, 1);", answers, aborted(api.ErrRandom, 0, "player 0 energy 0 to 1"))
		}
	}
	for _, n := range []int64{1, 2, 3, 255, 256, 1 << 31, 1 << 32, math.MaxInt64 - 1, math.MaxInt64} {
		src := "gain(me, 7); let x = random(" + literal(n) + "); if x == " + literal(n-1) + " { gain(me, 1); } else { gain(me, x); } gain(me, 0);"
		first := "player 0 energy 0 to 7"
		wantDoes(t, src, nil, starved(n, 0, first))
		for _, wrong := range []int64{-1, math.MinInt64, n, math.MaxInt64} {
			if wrong < 0 || wrong >= n {
				wantDoes(t, src, []int64{wrong}, starved(n, 0, first))
				wantDoes(t, src, []int64{wrong, 0}, starved(n, 0, first))
			}
		}
		wantDoes(t, src, []int64{n - 1}, done(1, first, "player 0 energy 7 to 8"))
		wantDoes(t, src, []int64{n - 1, -1, n}, done(1, first, "player 0 energy 7 to 8"))
		if n > 2 {
			wantDoes(t, src, []int64{1}, done(1, first, "player 0 energy 7 to 8"))
		}
		if n > 1 {
			wantDoes(t, src, []int64{0, 0}, done(1, first))
		}
	}
}

// As many answers are taken as are asked for, from the first on.
func TestAnswersInOrder(t *testing.T) {
	src := "gain(me, random(10)); gain(me, random(10)); gain(me, random(10));"
	events := []string{"player 0 energy 0 to 3", "player 0 energy 3 to 4", "player 0 energy 4 to 8"}
	for n, answers := range [][]int64{{}, {3}, {3, 1}} {
		wantDoes(t, src, answers, starved(10, n, events[:n]...))
		wantDoes(t, src, append(answers, 10), starved(10, n, events[:n]...))
		wantDoes(t, src, append(answers, -1, 5, 5, 5), starved(10, n, events[:n]...))
	}
	for _, more := range [][]int64{nil, {5}, {-1}, {10, 10, 10}, {math.MinInt64, math.MaxInt64}} {
		wantDoes(t, src, append([]int64{3, 1, 4}, more...), done(3, events...))
		wantDoes(t, src+" abort;", append([]int64{3, 1, 4}, more...), aborted(api.ErrAbort, 3, events...))
	}
}

// Each effect's event, at the ends of the stats too; none, where nothing would change.
func TestChanges(t *testing.T) {
	const most = api.MaxStat
	type effect struct {
		word, of, field string
		stat            func(s *api.State, card, player int) *int32
		sign            int64
	}
	ofCard := func(pick func(c *api.Card) *int32) func(s *api.State, card, player int) *int32 {
		return func(s *api.State, card, _ int) *int32 { return pick(&s.Cards[card]) }
	}
	ofPlayer := func(pick func(p *api.Player) *int32) func(s *api.State, card, player int) *int32 {
		return func(s *api.State, _, player int) *int32 { return pick(&s.Players[player]) }
	}
	for _, e := range []effect{
		{"hit", "card", "damage", ofCard(func(c *api.Card) *int32 { return &c.Damage }), 1},
		{"mark", "card", "marks", ofCard(func(c *api.Card) *int32 { return &c.Marks }), 1},
		{"grow", "card", "power", ofCard(func(c *api.Card) *int32 { return &c.Power }), 1},
		{"harm", "player", "life", ofPlayer(func(p *api.Player) *int32 { return &p.Life }), -1},
		{"gain", "player", "energy", ofPlayer(func(p *api.Player) *int32 { return &p.Energy }), 1},
	} {
		for _, was := range []int32{0, 1, -1, 20, most, most - 1, -most, 1 - most} {
			for _, by := range append(telling(), most, -most, 2*most, -2*most, 1-most, most-1) {
				s := dealt(3, 7)
				card, player, what, which := 5, 2, "self", 5
				if e.of == "player" {
					what, which = "me", 2
				}
				*e.stat(&s, card, player) = was
				now := added(was, by, e.sign)
				w := done(0)
				if now != was {
					w = done(0, changed(e.of, which, e.field, was, now))
				}
				src := e.word + "(" + what + ", " + literal(by) + ");"
				wantRun(t, src, does(t, src), s, card, player, nil, w)
			}
		}
	}
}

// added is the stat and the number, with that sign, within the stats.
func added(was int32, by, sign int64) int32 {
	f := float64(was) + float64(sign)*float64(by) // exact as far as it is within the stats
	return int32(min(max(f, -api.MaxStat), api.MaxStat))
}

// move brings a card to a zone's end, put to its beginning, from wherever it stands; what stands there already makes no event.
func TestMoves(t *testing.T) {
	for _, s := range someStates() {
		for c := range s.Cards {
			from, at, _ := state.Where(s, c)
			for p := range s.Players {
				for i, word := range words() {
					to := 4*p + i
					last := len(s.Zones[to])
					if to == from {
						last--
					}
					for effect, toAt := range map[string]int{"move": last, "put": 0} {
						w := done(0, moved(c, from, at, to, toAt))
						if to == from && toAt == at {
							w = done(0)
						}
						src := effect + "(self, zone(me, " + word + "));"
						wantRun(t, src, does(t, src), s, c, p, nil, w)
					}
				}
			}
		}
	}
}

// draw brings the top of the player's deck to the end of the hand, nothing from an empty deck.
func TestDraw(t *testing.T) {
	for _, s := range someStates() {
		for p := range s.Players {
			w := done(0)
			if deck := s.Zones[4*p]; len(deck) > 0 {
				w = done(0, moved(deck[0], 4*p, 0, 4*p+1, len(s.Zones[4*p+1])))
			}
			wantRun(t, "draw(me);", does(t, "draw(me);"), s, 0, p, nil, w)
		}
	}
	wantDoes(t, "draw(me); draw(me); draw(me); draw(next(me)); gain(me, 1);", nil, done(0, "move 0 from 0 0 to 1 0", "move 1 from 0 0 to 1 1", "player 0 energy 0 to 1"))
}

// shuffled is the order that the document's words make of the answers, and how many are taken; false, if they starve.
func shuffled(cards int, answers []int64) (order []int, ask int64, ok bool) {
	for i := range cards {
		order = append(order, i)
	}
	for k, i := 0, cards-1; i >= 1; k, i = k+1, i-1 {
		if k >= len(answers) || answers[k] < 0 || answers[k] >= int64(i+1) {
			return nil, int64(i + 1), false
		}
		there := int(answers[k])
		a, b := order[i], order[there]
		order[i], order[there] = b, a
	}
	return order, 0, true
}

// All answers that may be given to shuffles of up to five cards, and answers that starve them at each place.
func TestShuffle(t *testing.T) {
	for cards := 1; cards <= 5; cards++ {
		src := "mark(self, 1); shuffle(zone(me, deck)); mark(self, 1);"
		d := does(t, src)
		var give func(answers []int64)
		give = func(answers []int64) {
			order, ask, ok := shuffled(cards, answers)
			events := []string{"card 0 marks 0 to 1"}
			if !ok {
				wantRun(t, src, d, piled(cards), 0, 0, answers, starved(ask, 0, events...))
				for _, wrong := range []int64{-1, ask, math.MinInt64, math.MaxInt64} {
					wantRun(t, src, d, piled(cards), 0, 0, append(answers[:len(answers):len(answers)], wrong, 0, 0, 0, 0), starved(ask, 0, events...))
				}
				for n := range ask {
					give(append(answers[:len(answers):len(answers)], n))
				}
				return
			}
			text, same := "shuffle 0:", true
			for i, n := range order {
				text += " " + strconv.Itoa(n)
				same = same && i == n
			}
			if !same {
				events = append(events, text)
			}
			events = append(events, "card 0 marks 1 to 2")
			wantRun(t, src, d, piled(cards), 0, 0, answers, done(cards-1, events...))
			wantRun(t, src, d, piled(cards), 0, 0, append(answers[:len(answers):len(answers)], 0, -1), done(cards-1, events...))
		}
		give(nil)
	}
}

// A shuffle that starves takes no answer, but those that were taken ahead of it stay so.
func TestShuffleThatStarves(t *testing.T) {
	src := "gain(me, random(5)); shuffle(zone(me, deck)); gain(me, random(6)); shuffle(zone(me, deck));"
	d := does(t, src)
	gain := func(was, now int32) string { return changed("player", 0, "energy", was, now) }
	for n, w := range []want{
		starved(5, 0), starved(4, 1, gain(0, 4)), starved(3, 1, gain(0, 4)), starved(2, 1, gain(0, 4)),
		starved(6, 4, gain(0, 4), "shuffle 0: 3 1 2 0"), starved(4, 5, gain(0, 4), "shuffle 0: 3 1 2 0", gain(4, 9)),
		starved(3, 5, gain(0, 4), "shuffle 0: 3 1 2 0", gain(4, 9)), starved(2, 5, gain(0, 4), "shuffle 0: 3 1 2 0", gain(4, 9)),
		done(8, gain(0, 4), "shuffle 0: 3 1 2 0", gain(4, 9), "shuffle 0: 1 2 3 0"),
	} {
		wantRun(t, src, d, piled(4), 0, 0, []int64{4, 0, 2, 1, 5, 0, 0, 0}[:n], w)
	}
}

// An empty zone and one with one card are shuffled without an answer; the zone is the one that is named.
func TestShuffleOfWhichZone(t *testing.T) {
	wantDoes(t, "shuffle(zone(me, hand)); shuffle(zone(next(me), board)); shuffle(zone(next(me), grave)); gain(me, 1);", []int64{0, 0}, done(0, "player 0 energy 0 to 1"))
	for _, s := range someStates() {
		for p := range s.Players {
			for i, word := range words() {
				src := "shuffle(zone(me, " + word + "));"
				answers := make([]int64, 20)
				order, _, _ := shuffled(len(s.Zones[4*p+i]), answers)
				w := done(max(len(order)-1, 0))
				if len(order) > 1 {
					text := "shuffle " + strconv.Itoa(4*p+i) + ":"
					for _, n := range order {
						text += " " + strconv.Itoa(n)
					}
					w.trace = text
				}
				wantRun(t, src, does(t, src), s, 0, p, answers, w)
			}
		}
	}
}

// The greatest zone: 256 cards want 255 answers.
func TestTheGreatestShuffle(t *testing.T) {
	answers := make([]int64, 300)
	for i := range answers {
		answers[i] = int64((i * 37) % max(256-i, 1))
	}
	order, _, _ := shuffled(256, answers)
	text := "shuffle 0:"
	for _, n := range order {
		text += " " + strconv.Itoa(n)
	}
	d := does(t, "shuffle(zone(me, deck));")
	wantRun(t, "256 cards", d, piled(256), 0, 0, answers, done(255, text))
	wantRun(t, "256 cards", d, piled(256), 0, 0, answers[:254], starved(2, 0))
	wantRun(t, "256 cards", d, piled(256), 0, 0, nil, starved(256, 0))
}
