package mean_test

import (
	"math"
	"math/big"
	"strconv"
	"strings"
	"testing"

	"tableau/api"
)

// asked is what random asks for when it is handed the expression, 0, if that is below 1.
func asked(t testing.TB, expr string, s api.State, card, player int) int64 {
	t.Helper()
	r := sound(t, expr, does(t, "let n = random("+expr+");"), s, card, player, nil)
	if r.End == api.Starved {
		return r.Ask
	}
	if r.Err != api.ErrRandom {
		t.Fatalf("P14.2: %s ends with %d, %d", expr, r.End, int(r.Err))
	}
	return 0
}

// number is the int that the expression tells, for a card and a player of the state.
func number(t testing.TB, expr string, s api.State, card, player int) int64 {
	t.Helper()
	if n := asked(t, expr, s, card, player); n > 0 {
		return n
	}
	n := asked(t, "-("+expr+")", s, card, player)
	// The least one is the only number that without its sign is the same as the next one.
	if n == math.MaxInt64 && asked(t, "-("+expr+" + 1)", s, card, player) == n {
		return math.MinInt64
	}
	return -n
}

func wantNumber(t testing.TB, expr string, w int64) {
	t.Helper()
	if n := number(t, expr, start(), 0, 0); n != w {
		t.Errorf("P14.2: %s: %d, not %d", expr, n, w)
	}
}

// wantBool says what the expression tells, for the card 0 and the player 0 of the document's state.
func wantBool(t testing.TB, expr string, w bool) {
	t.Helper()
	wantBoolOf(t, expr, start(), 0, 0, w)
}

func wantBoolOf(t testing.TB, expr string, s api.State, card, player int, w bool) {
	t.Helper()
	r := sound(t, expr, does(t, "let b = "+expr+"; if b { abort; } else { stop; } gain(me, 1);"), s, card, player, nil)
	if got := r.End == api.Aborted; got != w || len(r.Trace) != 0 {
		t.Errorf("P14.2: %s: %v, not %v", expr, got, w)
	}
}

// literal is a number as an expression.
func literal(n int64) string {
	switch {
	case n == math.MinInt64:
		return "(-9223372036854775807 - 1)"
	case n < 0:
		return "(-" + strconv.FormatInt(-n, 10) + ")"
	}
	return strconv.FormatInt(n, 10)
}

// telling are numbers at the ends of 64 bits, of 32 bits, of the stats, and around nought.
func telling() []int64 {
	l := []int64{0, math.MinInt64, math.MinInt64 + 1, math.MaxInt64, math.MaxInt64 - 1}
	for _, n := range []int64{1, 2, 3, 10, 1000000001, 1 << 31, 1<<32 + 1, 3037000500, 1 << 62} {
		l = append(l, n, -n)
	}
	return l
}

// cut is the whole number, or the end of 64 bits that it is beyond.
func cut(n *big.Int) int64 {
	if n.IsInt64() {
		return n.Int64()
	}
	if n.Sign() < 0 {
		return math.MinInt64
	}
	return math.MaxInt64
}

func TestNumbersThemselves(t *testing.T) {
	for _, n := range telling() {
		wantNumber(t, literal(n), n)
	}
	for _, n := range []int64{0, 1, 9, 255, 256, 65535, 65536, math.MaxInt64} {
		wantNumber(t, strconv.FormatInt(n, 10), n)
	}
}

func TestOneOperand(t *testing.T) {
	for _, n := range telling() {
		wantNumber(t, "-"+literal(n), cut(new(big.Int).Neg(big.NewInt(n))))
		wantNumber(t, "abs("+literal(n)+")", cut(new(big.Int).Abs(big.NewInt(n))))
	}
	wantBool(t, "!true", false)
	wantBool(t, "!false", true)
	wantBool(t, "!!true", true)
}

// Each pair of numbers: what comes of it is held against whole numbers of any length.
func TestTwoOperands(t *testing.T) {
	marks := map[string]func(z, a, b *big.Int) *big.Int{"+": (*big.Int).Add, "-": (*big.Int).Sub, "*": (*big.Int).Mul, "/": (*big.Int).Quo, "%": (*big.Int).Rem}
	for _, a := range telling() {
		for _, b := range telling() {
			for mark, of := range marks {
				expr := literal(a) + " " + mark + " " + literal(b)
				if b == 0 && (mark == "/" || mark == "%") {
					wantDoes(t, "let x = "+expr+";", nil, aborted(api.ErrDivide, 0))
					continue
				}
				wantNumber(t, expr, cut(of(new(big.Int), big.NewInt(a), big.NewInt(b))))
			}
			wantNumber(t, "min("+literal(a)+", "+literal(b)+")", min(a, b))
			wantNumber(t, "max("+literal(a)+", "+literal(b)+")", max(a, b))
		}
	}
}

// Each pair of numbers by all six comparisons at once, a bit each.
func TestComparisons(t *testing.T) {
	for _, a := range telling() {
		for _, b := range telling() {
			var src strings.Builder
			var want int64
			for i, c := range []struct {
				mark string
				so   bool
			}{{"==", a == b}, {"!=", a != b}, {"<", a < b}, {"<=", a <= b}, {">", a > b}, {">=", a >= b}} {
				bit := int64(1) << i
				src.WriteString("if " + literal(a) + " " + c.mark + " " + literal(b) + " { n = n + " + literal(bit) + "; } ")
				if c.so {
					want += bit
				}
			}
			r := sound(t, src.String(), does(t, "let n = 1; "+src.String()+" let m = random(n);"), start(), 0, 0, nil)
			if r.Ask != want+1 {
				t.Errorf("P14.2: %d held against %d: the bits %b, not %b", a, b, r.Ask-1, want)
			}
		}
	}
}

// Sums stop at their ends one by one, and go on from there.
func TestWhatHasStoppedGoesOn(t *testing.T) {
	const most = "9223372036854775807"
	for expr, w := range map[string]int64{
		most + " + 1":                           math.MaxInt64,
		most + " + 9 - 9":                       math.MaxInt64 - 9,
		"-" + most + " - 9 + 9":                 math.MinInt64 + 9,
		most + " * 2 / 2":                       math.MaxInt64 / 2,
		"-" + most + " - 9":                     math.MinInt64,
		"-(-" + most + " - 9)":                  math.MaxInt64,
		"(-" + most + " - 1) / -1":              math.MaxInt64,
		"(-" + most + " - 1) % -1":              0,
		"-7 / 2":                                -3,
		"-7 % 2":                                -1,
		"7 / -2":                                -3,
		"7 % -2":                                1,
		"1 + 2 * 3 - 4 / 2 % 2":                 7,
		"(1 + 2) * (3 - 4) / 2 % 2":             -1,
		"2 - 3 - 4":                             -5,
		"100 / 7 / 2":                           7,
		"min(max(1, 2), abs(-3))":               2,
		"zone(me, deck).cards.count":            2,
		"zone(me, hand).cards.count":            0,
		"zone(me, deck).size + self.power * 10": 12,
	} {
		wantNumber(t, expr, w)
	}
}

// The left one of two faults ends the run.
func TestFromTheLeft(t *testing.T) {
	divide, empty, wild := "1 / 0", "top(zone(me, grave)).power", "random(0)"
	for expr, w := range map[string]api.Errno{
		divide + " + " + empty: api.ErrDivide, empty + " - " + divide: api.ErrEmpty, wild + " * " + divide: api.ErrRandom,
		"(" + empty + ") / 0": api.ErrEmpty, "(" + wild + ") % 0": api.ErrRandom, "1 % 0 / " + empty: api.ErrDivide,
		divide + " == " + wild: api.ErrDivide, empty + " < " + wild: api.ErrEmpty, "-" + wild + " != " + empty: api.ErrRandom,
		"min(" + divide + ", " + wild + ")": api.ErrDivide, "max(" + wild + ", " + empty + ")": api.ErrRandom, "abs(" + empty + ")": api.ErrEmpty,
		"random(" + divide + ")": api.ErrDivide, "has(top(zone(me, grave)).place.cards, self)": api.ErrEmpty,
		"!(" + divide + " == 1)": api.ErrDivide, divide + " == 1 || " + wild + " == 1": api.ErrDivide, "false || " + wild + " == 1": api.ErrRandom, "true && " + empty + " == 1": api.ErrEmpty,
		"is(top(zone(me, grave)), \"x\")": api.ErrEmpty, "top(zone(me, grave)).owner.life": api.ErrEmpty,
	} {
		wantDoes(t, "gain(me, 1); let x = "+expr+"; gain(me, 1);", nil, aborted(w, 0, "player 0 energy 0 to 1"))
	}
	// Answers are taken in the same order.
	wantDoes(t, "gain(me, random(10) * 100 + min(random(20), 30) * 10 - random(30));", []int64{1, 2, 3}, done(3, "player 0 energy 0 to 117"))
	wantDoes(t, "gain(me, random(10) * 100 + min(random(20), 30) * 10 - random(30));", []int64{9, 19, 30}, starved(30, 2))
	wantDoes(t, "gain(me, random(10) * 100 + min(random(20), 30) * 10 - random(30));", []int64{9, 20, 29}, starved(20, 1))
	wantDoes(t, "hit(top(zone(me, grave)), 1 / 0);", nil, aborted(api.ErrEmpty, 0))
	wantDoes(t, "harm(next(me), random(0) + 1 / 0);", nil, aborted(api.ErrRandom, 0))
}

// && and || leave the right side out where the left one says it: it neither aborts nor asks.
func TestTheRightSideIsLeftOut(t *testing.T) {
	for expr, w := range map[string]bool{
		"true || 1 / 0 == 0": true, "false && 1 / 0 == 0": false, "true || random(3) == 0": true, "false && top(zone(me, grave)) == self": false,
		"true || false && 1 / 0 == 0": true, "(true || 1 / 0 == 0) && true": true, "false && 1 / 0 == 0 || true": true, "true && false && 1 / 0 == 0": false, "false || true || 1 / 0 == 0": true,
		"true || true": true, "true || false": true, "false || true": true, "false || false": false,
		"true && true": true, "true && false": false, "false && true": false, "false && false": false,
		"!(false && 1 / 0 == 0)": true, "true || !(1 / 0 == 0)": true,
	} {
		wantBool(t, expr, w)
	}
	wantDoes(t, "let b = random(2) == 0 || random(2) == 0; gain(me, 1);", []int64{0, 0}, done(1, "player 0 energy 0 to 1"))
	wantDoes(t, "let b = random(2) == 0 || random(2) == 0; gain(me, 1);", []int64{1, 0}, done(2, "player 0 energy 0 to 1"))
	wantDoes(t, "let b = random(2) == 0 && random(5) == 0; gain(me, 1);", []int64{0}, starved(5, 1))
	wantDoes(t, "let b = random(2) == 0 && random(5) == 0; gain(me, 1);", []int64{1}, done(1, "player 0 energy 0 to 1"))
}

// What is held against each other is the same number, bool, card, player or zone.
func TestTheSame(t *testing.T) {
	for expr, w := range map[string]bool{
		"true == true": true, "true == false": false, "false == false": true, "true != false": true, "false != false": false, "(1 < 2) == (2 < 3)": true, "me.out != next(me).out": false,
		"self == self": true, "self != self": false, "self == top(zone(me, deck))": true, "self == top(zone(next(me), board))": false, "self != top(zone(next(me), board))": true,
		"me == me": true, "me == next(me)": false, "me != next(me)": true, "me == next(next(me))": true, "self.owner == me": true, "top(zone(next(me), board)).owner == me": false,
		"zone(me, deck) == self.place": true, "zone(me, deck) == zone(me, hand)": false, "zone(me, deck) != zone(next(me), deck)": true, "zone(me, deck) == zone(next(next(me)), deck)": true, "zone(me, grave) != zone(me, grave)": false,
	} {
		wantBool(t, expr, w)
	}
	s := dealt(4, 11)
	for a := range s.Cards {
		for b := range s.Cards {
			for p := range s.Players {
				src := "let c = self; each d in zone(me, " + []string{"deck", "hand", "board", "grave"}[b%4] + ").cards { if c == d { mark(d, 1); } if c != d { mark(d, 2); } }"
				var l []string
				for _, c := range s.Zones[4*p+b%4] {
					by := int32(2)
					if c == a {
						by = 1
					}
					l = append(l, changed("card", c, "marks", s.Cards[c].Marks, s.Cards[c].Marks+by))
				}
				wantRun(t, src, does(t, src), s, a, p, nil, done(0, l...))
			}
		}
	}
}
