package dice

import (
	"math"
	"math/big"
	"math/rand"
	"slices"
	"testing"
)

// g is the document's G, in tens.
const g = 11400714819323198485

// mask holds a whole number to its lowest 64 bits.
var mask = new(big.Int).SetUint64(math.MaxUint64)

// drawnAt is what is drawn when G has been added and the place is z, by whole numbers of any length and the document's words.
func drawnAt(z uint64) uint64 {
	x := new(big.Int).SetUint64(z)
	for _, s := range []struct {
		shift uint
		times uint64
	}{{30, 13787848793156543929}, {27, 10723151780598845931}, {31, 1}} {
		x.Xor(x, new(big.Int).Rsh(x, s.shift))
		x.Mul(x, new(big.Int).SetUint64(s.times))
		x.And(x, mask)
	}
	return x.Uint64()
}

// words are dice by the document's words: their place alone.
type words struct{ place uint64 }

func (w *words) next() uint64 {
	w.place += g
	return drawnAt(w.place)
}

func (w *words) below(n int64) int64 {
	p := new(big.Int).SetUint64(w.next())
	p.Mul(p, big.NewInt(n))
	return p.Rsh(p, 64).Int64()
}

// asked is the order of n that comes of the answers, from the last place down.
func asked(n int, answers []int64) []int {
	l := []int{}
	for i := range n {
		l = append(l, i)
	}
	for k, j := range answers {
		i := n - 1 - k
		held := l[i]
		l[i] = l[j]
		l[j] = held
	}
	return l
}

func (w *words) order(n int) []int {
	answers := []int64{}
	for i := n - 1; i >= 1; i-- {
		answers = append(answers, w.below(int64(i+1)))
	}
	return asked(n, answers)
}

// someSeeds are the ends of the seeds, those around G's multiples, and others.
func someSeeds() []uint64 {
	r := rand.New(rand.NewSource(1))
	step := uint64(g)
	l := []uint64{0, 1, 9, 1 << 63, 1<<63 - 1, math.MaxUint64, math.MaxUint64 - 1, g, step - 1, -step, -step - 1, -(2 * step)}
	for range 30 {
		l = append(l, r.Uint64())
	}
	return l
}

// stands tells whether the dice have drawn just as often as the words.
func stands(d *Dice, w *words) bool {
	return d.place == w.place
}

func TestNext(t *testing.T) {
	d := New(0)
	for i, want := range []uint64{0xE220A8397B1DCDAF, 0x6E789E6AA1B965F4, 0x6C45D188009454F, 0xF88BB8A8724C81EC} {
		if got := d.Next(); got != want {
			t.Errorf("P3.1: draw %d of the seed 0 = %X, not %X", i, got, want)
		}
	}
	for _, seed := range someSeeds() {
		d, w := New(seed), &words{seed}
		for i := range 50 {
			if got, want := d.Next(), w.next(); got != want {
				t.Fatalf("P3.1: draw %d of the seed %d = %d, not %d", i, seed, got, want)
			}
		}
	}
}

func TestNextIsTheFirstOfASeedFurtherOn(t *testing.T) {
	for _, seed := range someSeeds() {
		d := New(seed)
		for k := uint64(1); k < 40; k++ {
			if got, want := d.Next(), New(seed+(k-1)*g).Next(); got != want {
				t.Fatalf("P3.1: draw %d of the seed %d = %d, the first further on = %d", k, seed, got, want)
			}
		}
	}
}

func TestDiceKnowNothingOfEachOther(t *testing.T) {
	a, b, w := New(7), New(7), &words{7}
	for range 10 {
		want := w.next()
		if x := a.Next(); x != want {
			t.Errorf("P3.1: the one draws %d, not %d (R6)", x, want)
		}
		if y := b.Next(); y != want {
			t.Errorf("P3.1: the other draws %d, not %d (R6)", y, want)
		}
	}
}

func TestProduct(t *testing.T) {
	const all = math.MaxUint64
	for _, c := range []struct{ a, b, hi, lo uint64 }{
		{0, 0, 0, 0}, {0, all, 0, 0}, {1, all, 0, all}, {3, 5, 0, 15},
		{all, all, all - 1, 1}, {1 << 32, 1 << 32, 1, 0}, {1 << 63, 2, 1, 0}, {1 << 63, 1 << 63, 1 << 62, 0},
		{all, 2, 1, all - 1}, {1<<32 - 1, 1<<32 + 1, 0, all}, {1<<32 + 1, 1<<32 + 1, 1, 1<<33 + 1}, {all, 1 << 63, 1<<63 - 1, 1 << 63},
	} {
		if hi, lo := Product(c.a, c.b); hi != c.hi || lo != c.lo {
			t.Errorf("P3.2: Product(%d, %d) = %d, %d, not %d, %d", c.a, c.b, hi, lo, c.hi, c.lo)
		}
	}
	numbers := append(someSeeds(), 2, 3, 1<<32, 1<<32-1, 1<<32+1)
	for _, a := range numbers {
		for _, b := range numbers {
			whole := new(big.Int).Mul(new(big.Int).SetUint64(a), new(big.Int).SetUint64(b))
			hi, lo := Product(a, b)
			got := new(big.Int).Lsh(new(big.Int).SetUint64(hi), 64)
			if got.Add(got, new(big.Int).SetUint64(lo)).Cmp(whole) != 0 {
				t.Errorf("P3.2: Product(%d, %d) = %d, %d, the product is %s", a, b, hi, lo, whole)
			}
		}
	}
}

func TestBelow(t *testing.T) {
	d := New(0)
	for i, c := range []struct{ n, want int64 }{{6, 5}, {6, 2}, {6, 0}, {0, 0}, {1 << 62, 4477402844195135611}} {
		if got := d.Below(c.n); got != c.want {
			t.Errorf("P3.3: Below(%d) as the number %d of the seed 0 = %d, not %d", c.n, i, got, c.want)
		}
	}
	for _, seed := range someSeeds() {
		d, w := New(seed), &words{seed}
		for _, n := range []int64{1, 2, 3, 6, 7, 100, 256, 1 << 31, 1<<32 + 1, 1 << 62, 1<<62 + 1, math.MaxInt64, math.MaxInt64 - 1} {
			got, want := d.Below(n), w.below(n)
			if got != want {
				t.Errorf("P3.3: Below(%d) of the seed %d = %d, not %d", n, seed, got, want)
			}
			if got < 0 || got >= n {
				t.Errorf("P3.3: Below(%d) = %d", n, got)
			}
			if !stands(d, w) {
				t.Fatalf("P3.3: Below(%d) draws one, not more nor less", n)
			}
		}
	}
}

func TestBelowOfNothingDrawsNothing(t *testing.T) {
	for _, seed := range someSeeds() {
		d, w := New(seed), &words{seed}
		for _, n := range []int64{0, -1, -6, math.MinInt64, math.MinInt64 + 1} {
			if got := d.Below(n); got != 0 || !stands(d, w) {
				t.Errorf("P3.3: Below(%d) of the seed %d = %d, or something was drawn", n, seed, got)
			}
		}
		if got := d.Below(6); got != w.below(6) {
			t.Errorf("P3.3: behind a Below of nothing: %d", got)
		}
	}
}

func TestShare(t *testing.T) {
	if got := New(0).Share(); got != 0.8833108082136426 {
		t.Errorf("P3.4: Share of the seed 0 = %v", got)
	}
	for _, seed := range someSeeds() {
		d, w := New(seed), &words{seed}
		for range 50 {
			got, whole := d.Share(), w.next()/2048
			want, exact := new(big.Rat).SetFrac(new(big.Int).SetUint64(whole), big.NewInt(1<<53)).Float64()
			if got != want || !exact {
				t.Errorf("P3.4: Share of the seed %d = %v, not %v", seed, got, want)
			}
			if got < 0 || got >= 1 || got*(1<<53) != float64(whole) {
				t.Errorf("P3.4: Share %v is not of whole numbers below 2^53", got)
			}
			if !stands(d, w) {
				t.Fatal("P3.4: Share draws one, not more nor less")
			}
		}
	}
}

// seedOf is the seed whose first draw is the number: the draw, undone from its end.
func seedOf(drawn uint64) uint64 {
	z := unshifted(drawn, 31)
	z = unshifted(z*inverse(10723151780598845931), 27)
	z = unshifted(z*inverse(13787848793156543929), 30)
	return z - g
}

// unshifted is the x of which x ^ (x >> k) is z.
func unshifted(z uint64, k uint) uint64 {
	x := z
	for s := k; s < 64; s += k {
		x = z ^ x>>k
	}
	return x
}

// inverse is what an odd number is to be multiplied by to be 1.
func inverse(odd uint64) uint64 {
	x := odd
	for range 6 {
		x *= 2 - odd*x
	}
	return x
}

func TestDrawsAtTheEnds(t *testing.T) {
	const all = math.MaxUint64
	for _, c := range []struct {
		drawn uint64
		share float64
		below int64 // of the greatest number
	}{
		{0, 0, 0}, {1, 0, 0}, {2047, 0, 1023}, {2048, 1.0 / (1 << 53), 1023},
		{1 << 63, 0.5, 1<<62 - 1}, {all, 1 - 1.0/(1<<53), math.MaxInt64 - 1}, {all - 2047, 1 - 1.0/(1<<53), math.MaxInt64 - 1 - 1023},
	} {
		seed := seedOf(c.drawn)
		if got := New(seed).Next(); got != c.drawn {
			t.Errorf("P3.1: Next of the seed %d = %d, not %d", seed, got, c.drawn)
		}
		if got := New(seed).Share(); got != c.share || math.Signbit(got) {
			t.Errorf("P3.4: Share of what is drawn as %d = %v, not %v", c.drawn, got, c.share)
		}
		if got := New(seed).Below(math.MaxInt64); got != c.below {
			t.Errorf("P3.3: Below the greatest of what is drawn as %d = %d, not %d", c.drawn, got, c.below)
		}
		if got := New(seed).Below(1); got != 0 {
			t.Errorf("P3.3: Below(1) of what is drawn as %d = %d", c.drawn, got)
		}
	}
}

func TestOrder(t *testing.T) {
	d := New(0)
	for _, c := range []struct {
		n    int
		want []int
	}{{4, []int{2, 0, 1, 3}}, {1, []int{0}}, {0, nil}} {
		if got := d.Order(c.n); !slices.Equal(got, c.want) {
			t.Errorf("P3.5: Order(%d) of the seed 0 = %v, not %v", c.n, got, c.want)
		}
	}
	for _, seed := range someSeeds() {
		d, w := New(seed), &words{seed}
		for _, n := range []int{0, 1, 2, 3, 4, 5, 10, 52, 256} {
			if got, want := d.Order(n), w.order(n); !slices.Equal(got, want) || !stands(d, w) {
				t.Errorf("P3.5: Order(%d) of the seed %d = %v, not %v, or not n - 1 drawn", n, seed, got, want)
			}
		}
	}
}

func TestOrderOfTheMost(t *testing.T) {
	for _, n := range []int{65535, 65536} {
		d, w := New(5), &words{5}
		got := d.Order(n)
		if !slices.Equal(got, w.order(n)) || !stands(d, w) {
			t.Fatalf("P3.5: Order(%d) is another one", n)
		}
		slices.Sort(got)
		if !slices.Equal(got, asked(n, nil)) {
			t.Errorf("P3.5: Order(%d) has not each number once", n)
		}
	}
}

func TestOrderBeyondTheLimits(t *testing.T) {
	for _, n := range []int{-1, -2, math.MinInt, 65537, 65538, 1 << 31, math.MaxInt} {
		d, w := New(3), &words{3}
		if got := d.Order(n); len(got) != 0 || !stands(d, w) {
			t.Errorf("P3.5: Order(%d) gives %d numbers, or something was drawn", n, len(got))
		}
	}
}

func TestOrdersAreNewMemory(t *testing.T) {
	a, b := New(3).Order(5), New(3).Order(5)
	want := slices.Clone(a)
	clear(b[:cap(b)])
	if !slices.Equal(a, want) || !slices.Equal(New(3).Order(5), want) {
		t.Error("P3.5: what is done to an order is seen in another one (R5)")
	}
	a, _ = Shuffle(5, func(n int64) (int64, bool) { return 0, true })
	b, _ = Shuffle(5, func(n int64) (int64, bool) { return 0, true })
	clear(b[:cap(b)])
	if !slices.Equal(a, []int{1, 2, 3, 4, 0}) {
		t.Error("P3.7: what is done to an order is seen in another one (R5)")
	}
}

func TestAll(t *testing.T) {
	for _, seed := range someSeeds() {
		for _, times := range []int{1, 2, 5, 40} {
			d, w := New(seed), &words{seed}
			n := 0
			for x := range d.All() {
				if want := w.next(); x != want {
					t.Errorf("P3.6: the number %d of the seed %d = %d, not %d", n, seed, x, want)
				}
				if !stands(d, w) {
					t.Fatal("P3.6: what is drawn ahead of the next round was not handed out")
				}
				if n++; n == times {
					break
				}
			}
			if n != times || !stands(d, w) {
				t.Errorf("P3.6: left behind %d, %d were handed out, or others drawn", times, n)
			}
		}
	}
}

func TestAllDrawsWhenItIsGoneThrough(t *testing.T) {
	d, w := New(8), &words{8}
	all := d.All()
	if !stands(d, w) {
		t.Error("P3.6: something was drawn ahead of going through")
	}
	d.Next()
	w.next()
	for x := range all {
		if want := w.next(); x != want {
			t.Errorf("P3.6: %d, not %d, which Next gives then", x, want)
		}
		break
	}
	for x := range all {
		if want := w.next(); x != want {
			t.Errorf("P3.6: begun again: %d, not %d", x, want)
		}
		break
	}
	if d.Next() != w.next() {
		t.Error("P3.6: left twice, others are drawn")
	}
}

func TestAllWithinItself(t *testing.T) {
	d, w := New(math.MaxUint64), &words{math.MaxUint64}
	all := d.All()
	rounds := 0
	for x := range all {
		if want := w.next(); x != want {
			t.Fatalf("P3.6: the outer round gives %d, not %d", x, want)
		}
		inner := 0
		for y := range all {
			if want := w.next(); y != want {
				t.Fatalf("P3.6: the inner round gives %d, not %d", y, want)
			}
			if inner++; inner == 3 {
				break
			}
		}
		for y := range d.All() {
			if want := w.next(); y != want {
				t.Fatalf("P3.6: another inner round gives %d, not %d", y, want)
			}
			break
		}
		if rounds++; rounds == 4 {
			break
		}
	}
	if rounds != 4 || !stands(d, w) {
		t.Error("P3.6: rounds within rounds draw others")
	}
}

func TestOthersWithinAll(t *testing.T) {
	d, w := New(17), &words{17}
	n := 0
	for x := range d.All() {
		if want := w.next(); x != want {
			t.Fatalf("P3.6: %d, not %d", x, want)
		}
		if d.Next() != w.next() || d.Below(6) != w.below(6) || d.Share() != float64(w.next()>>11)/(1<<53) {
			t.Fatal("P3.6: Next, Below, Share within")
		}
		if !slices.Equal(d.Order(5), w.order(5)) {
			t.Fatal("P3.6: Order within")
		}
		if n++; n == 6 {
			break
		}
	}
	if n != 6 || !stands(d, w) {
		t.Error("P3.6: others asked within, others are drawn")
	}
}

// Left by hand: the function that is handed in says false at the first, and is not called any more.
func TestAllThatIsLeftAtOnce(t *testing.T) {
	d, w := New(4), &words{4}
	called := 0
	d.All()(func(x uint64) bool {
		called++
		if want := w.next(); x != want {
			t.Errorf("P3.6: %d, not %d", x, want)
		}
		return false
	})
	if called != 1 || !stands(d, w) {
		t.Errorf("P3.6: left at once, it gave %d", called)
	}
}

// asker answers from the list, then with false, and tells what it was asked.
func asker(answers []int64, askedFor *[]int64) func(int64) (int64, bool) {
	return func(n int64) (int64, bool) {
		*askedFor = append(*askedFor, n)
		if len(*askedFor) > len(answers) {
			return 0, false
		}
		return answers[len(*askedFor)-1], true
	}
}

func TestShuffle(t *testing.T) {
	for _, c := range []struct {
		n        int
		answers  []int64
		want     []int
		ok       bool
		askedFor []int64
	}{
		{0, nil, nil, true, nil},
		{1, nil, []int{0}, true, nil},
		{2, []int64{0}, []int{1, 0}, true, []int64{2}},
		{2, []int64{1}, []int{0, 1}, true, []int64{2}},
		{4, []int64{0, 0, 0}, []int{1, 2, 3, 0}, true, []int64{4, 3, 2}},
		{4, []int64{3, 2, 1}, []int{0, 1, 2, 3}, true, []int64{4, 3, 2}},
		{4, []int64{1, 0, 1}, []int{2, 3, 0, 1}, true, []int64{4, 3, 2}},
		{4, []int64{3, 2, 1, 0}, []int{0, 1, 2, 3}, true, []int64{4, 3, 2}},
		{4, []int64{4}, nil, false, []int64{4}},
		{4, []int64{-1, 0, 0}, nil, false, []int64{4}},
		{4, []int64{0, 3, 0}, nil, false, []int64{4, 3}},
		{4, []int64{0, -1, 0}, nil, false, []int64{4, 3}},
		{4, []int64{0, 0, 2}, nil, false, []int64{4, 3, 2}},
		{4, []int64{0, 0, -1}, nil, false, []int64{4, 3, 2}},
		{4, nil, nil, false, []int64{4}},
		{4, []int64{0}, nil, false, []int64{4, 3}},
		{4, []int64{0, 0}, nil, false, []int64{4, 3, 2}},
		{4, []int64{math.MinInt64}, nil, false, []int64{4}},
		{4, []int64{math.MaxInt64}, nil, false, []int64{4}},
		{4, []int64{1 << 32, 0, 0}, nil, false, []int64{4}},
		{2, []int64{2}, nil, false, []int64{2}},
	} {
		var askedFor []int64
		got, ok := Shuffle(c.n, asker(c.answers, &askedFor))
		if ok != c.ok || !slices.Equal(got, c.want) || !slices.Equal(askedFor, c.askedFor) {
			t.Errorf("P3.7: Shuffle(%d, %v) = %v, %v, asked for %v; not %v, %v, %v", c.n, c.answers, got, ok, askedFor, c.want, c.ok, c.askedFor)
		}
	}
}

// An answer that is one counts for nothing where false stands beside it.
func TestShuffleThatIsRefused(t *testing.T) {
	for last := range 9 {
		calls := 0
		got, ok := Shuffle(10, func(n int64) (int64, bool) {
			calls++
			return n - 1, calls <= last
		})
		if ok || len(got) != 0 || calls != last+1 {
			t.Errorf("P3.7: refused as the number %d: %v, %v, called %d times", last+1, got, ok, calls)
		}
	}
}

func TestShuffleBeyondTheLimits(t *testing.T) {
	for _, n := range []int{-1, -2, math.MinInt, 65537, 65538, 1 << 31, math.MaxInt} {
		got, ok := Shuffle(n, func(int64) (int64, bool) {
			t.Fatalf("P3.7: Shuffle(%d) asks", n)
			return 0, true
		})
		if ok || len(got) != 0 {
			t.Errorf("P3.7: Shuffle(%d) = %d numbers, %v", n, len(got), ok)
		}
	}
}

func TestShuffleOfTheMost(t *testing.T) {
	const most = 65536
	for _, c := range []struct {
		what   string
		answer func(n int64) int64
		want   func(i int) int
	}{
		{"0", func(n int64) int64 { return 0 }, func(i int) int { return (i + 1) % most }},
		{"i", func(n int64) int64 { return n - 1 }, func(i int) int { return i }},
	} {
		next := int64(most)
		got, ok := Shuffle(most, func(n int64) (int64, bool) {
			if n != next {
				t.Fatalf("P3.7: asked below %d, not %d", n, next)
			}
			next--
			return c.answer(n), true
		})
		if !ok || len(got) != most || next != 1 {
			t.Fatalf("P3.7: answers of %s: %d numbers, %v", c.what, len(got), ok)
		}
		for i, x := range got {
			if x != c.want(i) {
				t.Fatalf("P3.7: answers of %s: %d stands at %d", c.what, x, i)
			}
		}
	}
}

func TestEachOrderComesOnce(t *testing.T) {
	for n := range 7 {
		seen := map[string]int{}
		lists := 0
		eachAnswers(n, nil, func(answers []int64) {
			lists++
			var askedFor []int64
			got, ok := Shuffle(n, asker(answers, &askedFor))
			if !ok || !slices.Equal(got, asked(n, answers)) {
				t.Fatalf("P3.7: Shuffle(%d, %v) = %v, %v", n, answers, got, ok)
			}
			text := ""
			for _, x := range got {
				text += string(rune('a' + x))
			}
			seen[text]++
			slices.Sort(got)
			if !slices.Equal(got, asked(n, nil)) {
				t.Fatalf("P3.7: %q has not each number once", text)
			}
		})
		if len(seen) != lists {
			t.Errorf("P3.7: %d lists of answers give %d orders of %d", lists, len(seen), n)
		}
	}
}

// eachAnswers gives every list of answers to an order of n.
func eachAnswers(n int, sofar []int64, give func([]int64)) {
	i := n - 1 - len(sofar)
	if i < 1 {
		give(sofar)
		return
	}
	for j := range i + 1 {
		eachAnswers(n, append(slices.Clone(sofar), int64(j)), give)
	}
}

func TestShuffleWithinShuffle(t *testing.T) {
	got, ok := Shuffle(3, func(n int64) (int64, bool) {
		inner, ok := Shuffle(int(n), func(m int64) (int64, bool) { return 0, true })
		return int64(inner[n-1]), ok
	})
	if !ok || !slices.Equal(got, []int{1, 2, 0}) {
		t.Errorf("P3.7: a Shuffle that asks another one = %v, %v", got, ok)
	}
}

func TestNoDice(t *testing.T) {
	for what, d := range map[string]*Dice{"nil dice": nil, "dice that New did not make": {}, "new(Dice)": new(Dice)} {
		for range 3 {
			if d.Next() != 0 {
				t.Errorf("P3.1: %s draw (R3)", what)
			}
			for _, n := range []int64{math.MinInt64, -1, 0, 1, 6, 1 << 62, math.MaxInt64} {
				if d.Below(n) != 0 {
					t.Errorf("P3.3: %s: Below(%d) (R3)", what, n)
				}
			}
			if s := d.Share(); s != 0 || math.Signbit(s) {
				t.Errorf("P3.4: %s: Share = %v (R3)", what, s)
			}
			for _, n := range []int{-1, 0, 1, 2, 5, 65536, 65537} {
				if got := d.Order(n); len(got) != 0 {
					t.Errorf("P3.5: %s: Order(%d) gives %d numbers (R3)", what, n, len(got))
				}
			}
			for range d.All() {
				t.Errorf("P3.6: %s: All gives something (R3)", what)
				break
			}
		}
		if d != nil && *d != (Dice{}) {
			t.Errorf("R3: %s are others behind it", what)
		}
	}
}
