package sat

import (
	"math"
	"math/big"
	"slices"
	"testing"
)

// Kinds that are made of the language's own.
type (
	tiny  int8
	short int16
	mid   int32
	wide  int64
	plain int
)

// eachKind runs one generic check for every kind of Int, with the ends written out by hand.
func eachKind(t *testing.T, f func(t *testing.T, k kind)) {
	for _, k := range []kind{
		kindOf[int8]("int8", math.MinInt8, math.MaxInt8),
		kindOf[tiny]("made of int8", math.MinInt8, math.MaxInt8),
		kindOf[int16]("int16", math.MinInt16, math.MaxInt16),
		kindOf[short]("made of int16", math.MinInt16, math.MaxInt16),
		kindOf[int32]("int32", math.MinInt32, math.MaxInt32),
		kindOf[mid]("made of int32", math.MinInt32, math.MaxInt32),
		kindOf[int64]("int64", math.MinInt64, math.MaxInt64),
		kindOf[wide]("made of int64", math.MinInt64, math.MaxInt64),
		kindOf[int]("int", math.MinInt, math.MaxInt),
		kindOf[plain]("made of int", math.MinInt, math.MaxInt),
	} {
		t.Run(k.name, func(t *testing.T) { f(t, k) })
	}
}

// kind holds the calls of one kind of Int, with all numbers as int64.
type kind struct {
	name          string
	lo, hi        int64
	add, sub, mul func(a, b int64) int64
	neg, abs, to  func(a int64) int64
	div, rem      func(a, b int64) (int64, bool)
	clamp         func(a, lo, hi int64) int64
	sum           func(l ...int64) int64
}

func kindOf[T Int](name string, lo, hi int64) kind {
	two := func(f func(a, b T) T) func(a, b int64) int64 {
		return func(a, b int64) int64 { return int64(f(T(a), T(b))) }
	}
	asked := func(f func(a, b T) (T, bool)) func(a, b int64) (int64, bool) {
		return func(a, b int64) (int64, bool) {
			n, ok := f(T(a), T(b))
			return int64(n), ok
		}
	}
	return kind{
		name: name, lo: lo, hi: hi,
		add: two(Add[T]), sub: two(Sub[T]), mul: two(Mul[T]),
		neg: func(a int64) int64 { return int64(Neg(T(a))) },
		abs: func(a int64) int64 { return int64(Abs(T(a))) },
		to:  func(a int64) int64 { return int64(To[T](a)) },
		div: asked(Div[T]), rem: asked(Rem[T]),
		clamp: func(a, lo, hi int64) int64 { return int64(Clamp(T(a), T(lo), T(hi))) },
		sum: func(l ...int64) int64 {
			var own []T
			for _, n := range l {
				own = append(own, T(n))
			}
			return int64(Sum(own...))
		},
	}
}

// samples are numbers of the kind where something may change: nought, the ends, their roots and halves.
func (k kind) samples() []int64 {
	root := int64(math.Sqrt(float64(k.hi)))
	var l []int64
	for _, around := range []int64{k.lo, k.lo / 2, -root, 0, root, k.hi / 2, k.hi} {
		for by := int64(-4); by <= 4; by++ {
			n := new(big.Int).Add(big.NewInt(around), big.NewInt(by))
			if n.Cmp(big.NewInt(k.lo)) >= 0 && n.Cmp(big.NewInt(k.hi)) <= 0 {
				l = append(l, n.Int64())
			}
		}
	}
	slices.Sort(l)
	return slices.Compact(l)
}

// cut is a whole number, cut to the ends of the kind.
func (k kind) cut(n *big.Int) int64 {
	if n.Cmp(big.NewInt(k.lo)) < 0 {
		return k.lo
	}
	if n.Cmp(big.NewInt(k.hi)) > 0 {
		return k.hi
	}
	return n.Int64()
}

// pairs runs f on every two numbers of the list, as whole numbers too.
func pairs(l []int64, f func(a, b int64, wa, wb *big.Int)) {
	for _, a := range l {
		for _, b := range l {
			f(a, b, big.NewInt(a), big.NewInt(b))
		}
	}
}

// all are the numbers of int8.
func all() []int64 {
	var l []int64
	for n := int64(math.MinInt8); n <= math.MaxInt8; n++ {
		l = append(l, n)
	}
	return l
}

func (k kind) checkSums(t *testing.T, l []int64) {
	pairs(l, func(a, b int64, wa, wb *big.Int) {
		if got, want := k.add(a, b), k.cut(new(big.Int).Add(wa, wb)); got != want {
			t.Errorf("P1.1: Add(%d, %d): %d, not %d", a, b, got, want)
		}
		if got, want := k.sub(a, b), k.cut(new(big.Int).Sub(wa, wb)); got != want {
			t.Errorf("P1.1: Sub(%d, %d): %d, not %d", a, b, got, want)
		}
		if got, want := k.mul(a, b), k.cut(new(big.Int).Mul(wa, wb)); got != want {
			t.Errorf("P1.1: Mul(%d, %d): %d, not %d", a, b, got, want)
		}
	})
	for _, a := range l {
		if got, want := k.neg(a), k.cut(new(big.Int).Neg(big.NewInt(a))); got != want {
			t.Errorf("P1.1: Neg(%d): %d, not %d", a, got, want)
		}
		if got, want := k.abs(a), k.cut(new(big.Int).Abs(big.NewInt(a))); got != want {
			t.Errorf("P1.1: Abs(%d): %d, not %d", a, got, want)
		}
	}
}

func (k kind) checkDivides(t *testing.T, l []int64) {
	pairs(l, func(a, b int64, wa, wb *big.Int) {
		q, ok := k.div(a, b)
		r, is := k.rem(a, b)
		if b == 0 {
			if q != 0 || ok || r != 0 || is {
				t.Errorf("P1.2: %d by 0: %d, %v, %d, %v", a, q, ok, r, is)
			}
			return
		}
		wantQ, wantR := new(big.Int).QuoRem(wa, wb, new(big.Int))
		if q != k.cut(wantQ) || !ok {
			t.Errorf("P1.2: Div(%d, %d): %d, %v, not %v", a, b, q, ok, wantQ)
		}
		if r != wantR.Int64() || !is {
			t.Errorf("P1.2: Rem(%d, %d): %d, %v, not %v", a, b, r, is, wantR)
		}
	})
}

func TestSumsAndProducts(t *testing.T) {
	eachKind(t, func(t *testing.T, k kind) { k.checkSums(t, k.samples()) })
}

func TestDivides(t *testing.T) {
	eachKind(t, func(t *testing.T, k kind) { k.checkDivides(t, k.samples()) })
}

func TestEveryPairOfInt8(t *testing.T) {
	for _, k := range []kind{
		kindOf[int8]("int8", math.MinInt8, math.MaxInt8),
		kindOf[tiny]("made of int8", math.MinInt8, math.MaxInt8),
	} {
		k.checkSums(t, all())
		k.checkDivides(t, all())
	}
}

func TestTheEnds(t *testing.T) {
	eachKind(t, func(t *testing.T, k kind) {
		for _, x := range []struct {
			what      string
			got, want int64
		}{
			{"P1.1: hi + 1", k.add(k.hi, 1), k.hi},
			{"P1.1: lo + -1", k.add(k.lo, -1), k.lo},
			{"P1.1: hi + lo", k.add(k.hi, k.lo), -1},
			{"P1.1: lo - 1", k.sub(k.lo, 1), k.lo},
			{"P1.1: hi - -1", k.sub(k.hi, -1), k.hi},
			{"P1.1: 0 - lo", k.sub(0, k.lo), k.hi},
			{"P1.1: -1 - lo", k.sub(-1, k.lo), k.hi},
			{"P1.1: lo * -1", k.mul(k.lo, -1), k.hi},
			{"P1.1: -1 * lo", k.mul(-1, k.lo), k.hi},
			{"P1.1: lo * 1", k.mul(k.lo, 1), k.lo},
			{"P1.1: lo * lo", k.mul(k.lo, k.lo), k.hi},
			{"P1.1: lo * hi", k.mul(k.lo, k.hi), k.lo},
			{"P1.1: lo * 0", k.mul(k.lo, 0), 0},
			{"P1.1: -lo", k.neg(k.lo), k.hi},
			{"P1.1: -hi", k.neg(k.hi), k.lo + 1},
			{"P1.1: abs lo", k.abs(k.lo), k.hi},
		} {
			if x.got != x.want {
				t.Errorf("%s: %d, not %d", x.what, x.got, x.want)
			}
		}
		if q, ok := k.div(k.lo, -1); q != k.hi || !ok {
			t.Errorf("P1.2: lo by -1: %d, %v", q, ok)
		}
		if r, ok := k.rem(k.lo, -1); r != 0 || !ok {
			t.Errorf("P1.2: what lo by -1 leaves over: %d, %v", r, ok)
		}
	})
}

func TestClamp(t *testing.T) {
	for _, x := range []struct{ a, lo, hi, want int64 }{
		{5, 1, 3, 3}, {0, 1, 3, 1}, {2, 1, 3, 2}, {1, 1, 3, 1}, {3, 1, 3, 3}, {7, 4, 4, 4},
		{2, 3, 1, 3}, {0, 3, 1, 3}, {5, 3, 1, 3}, {3, 3, 1, 3}, {1, 3, 1, 3},
	} {
		eachKind(t, func(t *testing.T, k kind) {
			if got := k.clamp(x.a, x.lo, x.hi); got != x.want {
				t.Errorf("P1.3: Clamp(%d, %d, %d): %d, not %d", x.a, x.lo, x.hi, got, x.want)
			}
		})
	}
	eachKind(t, func(t *testing.T, k kind) {
		for _, a := range k.samples() {
			if got := k.clamp(a, k.lo, k.hi); got != a {
				t.Errorf("P1.3: Clamp(%d) to its own ends: %d", a, got)
			}
			if got := k.clamp(a, k.hi, k.lo); got != k.hi {
				t.Errorf("P1.3: Clamp(%d) to its ends turned round: %d", a, got)
			}
		}
	})
}

func TestTo(t *testing.T) {
	widest := kindOf[int64]("int64", math.MinInt64, math.MaxInt64)
	eachKind(t, func(t *testing.T, k kind) {
		for _, a := range slices.Concat(k.samples(), widest.samples()) {
			if got, want := k.to(a), k.cut(big.NewInt(a)); got != want {
				t.Errorf("P1.4: To(%d): %d, not %d", a, got, want)
			}
		}
		// One beyond each end, where the kind leaves room for it.
		if k.hi < math.MaxInt64 && (k.to(k.hi+1) != k.hi || k.to(k.lo-1) != k.lo) {
			t.Errorf("P1.4: one beyond the ends: %d, %d", k.to(k.hi+1), k.to(k.lo-1))
		}
	})
}

func TestToBetweenKinds(t *testing.T) {
	for _, x := range []struct{ got, want int64 }{
		{int64(To[int8](int32(300))), 127},
		{int64(To[int8](int16(-129))), -128},
		{int64(To[int8](int16(256))), 127}, // its low byte is 0
		{int64(To[int8](int16(-256))), -128},
		{int64(To[tiny](short(127))), 127},
		{int64(To[int16](math.MinInt)), math.MinInt16},
		{int64(To[short](int32(1 << 16))), math.MaxInt16},
		{int64(To[int32](int64(math.MinInt64))), math.MinInt32},
		{int64(To[mid](wide(math.MaxInt64))), math.MaxInt32},
		{int64(To[int32](int64(1 << 32))), math.MaxInt32},
		{int64(To[int](int8(-5))), -5},
		{int64(To[plain](tiny(-128))), -128},
		{To[int64](int8(-5)), -5},
		{int64(To[wide](mid(math.MinInt32))), math.MinInt32},
		{To[int64](math.MinInt), math.MinInt},
		{int64(To[int8](int8(-128))), -128},
	} {
		if x.got != x.want {
			t.Errorf("P1.4: %d, not %d", x.got, x.want)
		}
	}
}

func TestSum(t *testing.T) {
	eachKind(t, func(t *testing.T, k kind) {
		for _, x := range []struct {
			l    []int64
			want int64
		}{
			{nil, 0},
			{[]int64{}, 0},
			{[]int64{7}, 7},
			{[]int64{k.lo}, k.lo},
			{[]int64{1, 2, 3, -10}, -4},
			{[]int64{k.hi, k.hi, -k.hi}, 0},       // it stopped at hi, and went on from there
			{[]int64{k.hi, 5, -3}, k.hi - 3},      // likewise
			{[]int64{k.lo, -5, 3}, k.lo + 3},      // at lo
			{[]int64{-3, 5, k.hi}, k.hi},          // another order, another sum
			{[]int64{k.hi, 1, k.lo, k.lo}, k.lo},  // both ends
			{[]int64{k.lo, k.hi, 1, k.hi}, k.hi},  // up to hi by way of 0
			{[]int64{0, 0, k.hi, -1, 2, 1}, k.hi}, // at hi twice
		} {
			if got := k.sum(x.l...); got != x.want {
				t.Errorf("P1.5: Sum(%v): %d, not %d", x.l, got, x.want)
			}
		}
	})
}

func TestSumIsOneAddBehindTheOther(t *testing.T) {
	eachKind(t, func(t *testing.T, k kind) {
		l := k.samples()
		var want int64
		for i, n := range l {
			want = k.add(want, n)
			if got := k.sum(l[:i+1]...); got != want {
				t.Errorf("P1.5: Sum(%v): %d, not %d", l[:i+1], got, want)
			}
		}
	})
}

func TestSumLeavesItsListAlone(t *testing.T) {
	l := []int8{100, 100, -100, 9}
	if got := Sum(l[:3]...); got != 27 {
		t.Errorf("P1.5: %d", got)
	}
	if !slices.Equal(l, []int8{100, 100, -100, 9}) {
		t.Errorf("R5: the list is %v", l)
	}
}

// TestExamples: the examples of the chapter, as they stand there.
func TestExamples(t *testing.T) {
	for _, x := range []struct{ got, want int8 }{
		{Add[int8](100, 100), 127}, {Add[int8](-100, -100), -128}, {Sub[int8](-128, 1), -128},
		{Mul[int8](-128, -1), 127}, {Mul[int8](16, -9), -128}, {Neg[int8](-128), 127},
		{Abs[int8](-128), 127}, {Abs[int8](-5), 5},
		{Clamp[int8](5, 1, 3), 3}, {Clamp[int8](0, 1, 3), 1}, {Clamp[int8](2, 3, 1), 3},
		{Sum[int8](100, 100, -100), 27}, {Sum[int8](), 0},
	} {
		if x.got != x.want {
			t.Errorf("%d, not %d", x.got, x.want)
		}
	}
	for _, x := range []struct{ got, want int64 }{
		{Mul[int64](1<<32, 1<<31), math.MaxInt64},
		{Mul[int64](1<<32, -1<<31), math.MinInt64},
		{Mul[int64](math.MinInt64, 1), math.MinInt64},
	} {
		if x.got != x.want {
			t.Errorf("%d, not %d", x.got, x.want)
		}
	}
}

func TestExamplesOfDivides(t *testing.T) {
	for _, x := range []struct {
		call       func(a, b int8) (int8, bool)
		a, b, want int8
		ok         bool
	}{
		{Div[int8], -7, 2, -3, true}, {Rem[int8], -7, 2, -1, true}, {Rem[int8], 7, -2, 1, true},
		{Div[int8], -128, -1, 127, true}, {Rem[int8], -128, -1, 0, true},
		{Div[int8], 5, 0, 0, false}, {Rem[int8], 5, 0, 0, false},
		{Div[int8], 0, 0, 0, false}, {Rem[int8], -128, 0, 0, false},
	} {
		if got, ok := x.call(x.a, x.b); got != x.want || ok != x.ok {
			t.Errorf("P1.2: %d, %d: %d, %v, not %d, %v", x.a, x.b, got, ok, x.want, x.ok)
		}
	}
}

// TestWhatFollows: the laws that the chapter draws from its promises, on every int8.
func TestWhatFollows(t *testing.T) {
	k := kindOf[int8]("int8", math.MinInt8, math.MaxInt8)
	pairs(all(), func(a, b int64, _, _ *big.Int) {
		if k.add(a, b) != k.add(b, a) || k.mul(a, b) != k.mul(b, a) {
			t.Errorf("Add or Mul asks which comes first: %d, %d", a, b)
		}
		if a < k.hi && k.add(a, b) > k.add(a+1, b) {
			t.Errorf("sums with %d fall behind %d", b, a)
		}
		q, _ := k.div(a, b)
		r, _ := k.rem(a, b)
		if b != 0 && !(a == k.lo && b == -1) && q*b+r != a {
			t.Errorf("%d is not %d times %d and %d", a, q, b, r)
		}
		if b != 0 && max(r, -r) >= max(b, -b) {
			t.Errorf("what %d by %d leaves over, %d, is not nearer to 0", a, b, r)
		}
	})
}
