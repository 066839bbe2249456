package sums

import (
	"bytes"
	"hash/crc32"
	"math"
	"math/rand"
	"slices"
	"testing"
)

// bitByBit takes n on by b as the document's words say it, without the turning at the ends.
func bitByBit(n uint32, b []byte) uint32 {
	for _, c := range b {
		n ^= uint32(c)
		for i := 0; i < 8; i++ {
			if n%2 == 1 {
				n = n/2 ^ 0xedb88320
			} else {
				n = n / 2
			}
		}
	}
	return n
}

// sumOf is the sum of b by the document's words.
func sumOf(b []byte) uint32 {
	return ^bitByBit(0xffffffff, b)
}

// laidOut is b with its sum behind, the lowest byte first.
func laidOut(b []byte) []byte {
	s := Crc(b)
	return append(slices.Clone(b), byte(s), byte(s>>8), byte(s>>16), byte(s>>24))
}

// someTexts are texts of bytes with nothing, one, several and many bytes.
func someTexts(r *rand.Rand) [][]byte {
	l := [][]byte{nil, {}, {0}, {1}, {0x80}, {0xff}, []byte("a"), []byte("ab"), []byte("123456789"), make([]byte, 300), bytes.Repeat([]byte{0xff}, 300)}
	for n := range 70 {
		b := make([]byte, n)
		r.Read(b)
		l = append(l, b)
	}
	return l
}

// someSums are numbers that are the sum of no text at hand, and the ends.
func someSums(r *rand.Rand) []uint32 {
	l := []uint32{0, 1, 5, 7, 0x80000000, 0x7fffffff, 0xffffffff, 0xfffffffe, 0xe8b7be43}
	for range 40 {
		l = append(l, r.Uint32())
	}
	return l
}

func TestCrc(t *testing.T) {
	for _, c := range []struct {
		text string
		want uint32
	}{{"", 0}, {"\x00", 0xd202ef8d}, {"a", 0xe8b7be43}, {"b", 0x71beeff9}, {"ab", 0x9e83486d}, {"123456789", 0xcbf43926}} {
		if got := Crc([]byte(c.text)); got != c.want {
			t.Errorf("P2.1: Crc(%q) = %#x, not %#x", c.text, got, c.want)
		}
	}
	if Crc(nil) != 0 || Crc([]byte{}) != 0 {
		t.Error("P2.1: the sum of nothing is 0, nil or empty (R4)")
	}
	for _, b := range someTexts(rand.New(rand.NewSource(1))) {
		if got := Crc(b); got != sumOf(b) || got != crc32.ChecksumIEEE(b) {
			t.Errorf("P2.1: Crc(%x) = %#x, not %#x", b, got, sumOf(b))
		}
	}
	for i := range 256 {
		if b := []byte{byte(i)}; Crc(b) != sumOf(b) {
			t.Errorf("P2.1: Crc of the byte %d = %#x, not %#x", i, Crc(b), sumOf(b))
		}
	}
}

func TestGo(t *testing.T) {
	r := rand.New(rand.NewSource(2))
	if got := Go(0xe8b7be43, []byte("b")); got != 0x9e83486d {
		t.Errorf("P2.1: Go(sum of a, b) = %#x", got)
	}
	texts := someTexts(r)
	for _, s := range someSums(r) {
		if Go(s, nil) != s || Go(s, []byte{}) != s {
			t.Errorf("P2.1: Go(%#x, nothing) = %#x", s, Go(s, nil))
		}
		for _, b := range texts {
			if got, want := Go(s, b), ^bitByBit(^s, b); got != want {
				t.Errorf("P2.1: Go(%#x, %x) = %#x, not %#x", s, b, got, want)
			}
		}
	}
	for _, a := range texts {
		for _, b := range texts {
			if got, want := Go(Crc(a), b), sumOf(slices.Concat(a, b)); got != want {
				t.Fatalf("P2.1: Go on from the sum of %x by %x = %#x, not %#x", a, b, got, want)
			}
		}
		if Go(0, a) != Crc(a) {
			t.Errorf("P2.1: Go(0, %x) is not its Crc", a)
		}
	}
}

func TestSumWithItsOwnSumBehind(t *testing.T) {
	for _, b := range someTexts(rand.New(rand.NewSource(3))) {
		if got := Crc(laidOut(b)); got != 0x2144df1c {
			t.Errorf("P2.1: the sum of %x with its own sum behind = %#x", b, got)
		}
	}
}

func TestJoin(t *testing.T) {
	for _, c := range []struct {
		a, b uint32
		n    int
		want uint32
	}{
		{0xe8b7be43, 0x71beeff9, 1, 0x9e83486d},
		{0, 0, 0, 0}, {5, 7, 0, 2}, {5, 7, -1, 0}, {0xffffffff, 0, 0, 0xffffffff},
		{0xe8b7be43, 0x71beeff9, -1, 0}, {5, 7, math.MinInt, 0}, {5, 7, -1 << 32, 0},
	} {
		if got := Join(c.a, c.b, c.n); got != c.want {
			t.Errorf("P2.2: Join(%#x, %#x, %d) = %#x, not %#x", c.a, c.b, c.n, got, c.want)
		}
	}
	r := rand.New(rand.NewSource(4))
	texts := someTexts(r)
	for _, s := range someSums(r) {
		for _, b := range texts {
			if got, want := Join(s, Crc(b), len(b)), Go(s, b); got != want {
				t.Errorf("P2.2: Join(%#x, sum of %x, %d) = %#x, not Go's %#x", s, b, len(b), got, want)
			}
		}
	}
	for _, a := range texts {
		for _, b := range texts {
			if got, want := Join(Crc(a), Crc(b), len(b)), sumOf(slices.Concat(a, b)); got != want {
				t.Fatalf("P2.2: Join of %x and %x = %#x, not %#x", a, b, got, want)
			}
		}
	}
}

func TestJoinOfAnyNumbers(t *testing.T) {
	r := rand.New(rand.NewSource(5))
	for _, n := range []int{0, 1, 2, 3, 4, 5, 7, 8, 9, 255, 256, 1000, 1<<16 - 1, 1 << 16, 1<<20 + 7} {
		noughts := make([]byte, n)
		for range 5 {
			a, b := r.Uint32(), r.Uint32()
			if got, want := Join(a, b, n), bitByBit(a, noughts)^b; got != want {
				t.Errorf("P2.2: Join(%#x, %#x, %d) = %#x, not %#x", a, b, n, got, want)
			}
		}
	}
}

// The polynomial's powers of x come round after 2^32 - 1 of them, so what far n give is known.
func TestJoinFarBeyondAnyList(t *testing.T) {
	const round = 1<<32 - 1
	r := rand.New(rand.NewSource(6))
	for _, a := range someSums(r) {
		b := r.Uint32()
		for _, n := range []int{0, 1, 2, 77, 1 << 20} {
			near := Join(a, b, n)
			for _, far := range []int{n + round, n + 3*round, n + round<<30} {
				if got := Join(a, b, far); got != near {
					t.Errorf("P2.2: Join(%#x, %#x, %d) = %#x, not %#x as with %d", a, b, far, got, near, n)
				}
			}
		}
		if Join(a, b, math.MaxInt) != Join(a, b, 1<<31-1) {
			t.Errorf("P2.2: Join(%#x, %#x, the greatest n) = %#x", a, b, Join(a, b, math.MaxInt))
		}
	}
}

func TestJoinOfThree(t *testing.T) {
	r := rand.New(rand.NewSource(7))
	for range 300 {
		a, b, c := r.Uint32(), r.Uint32(), r.Uint32()
		n, m := r.Intn(1<<62), r.Intn(1<<62)
		if left, right := Join(Join(a, b, n), c, m), Join(a, Join(b, c, m), n+m); left != right {
			t.Errorf("P2.2: of %#x, %#x by %d, %#x by %d: %#x, and %#x", a, b, n, c, m, left, right)
		}
	}
}

func TestTable(t *testing.T) {
	table := Table()
	for i, want := range map[int]uint32{0: 0, 1: 0x77073096, 8: 0x0edb8832, 128: 0xedb88320, 255: 0x2d02ef8d} {
		if table[i] != want {
			t.Errorf("P2.3: Table()[%d] = %#x, not %#x", i, table[i], want)
		}
	}
	for i, got := range table {
		if want := bitByBit(uint32(i), []byte{0}); got != want || want != crc32.IEEETable[i] {
			t.Errorf("P2.3: Table()[%d] = %#x, not %#x", i, got, want)
		}
	}
	for _, s := range someSums(rand.New(rand.NewSource(8))) {
		for c := range 256 {
			if got, want := Go(s, []byte{byte(c)}), ^(table[byte(^s)^byte(c)] ^ ^s/256); got != want {
				t.Fatalf("P2.3: %#x behind the byte %d is %#x, the table says %#x", s, c, got, want)
			}
		}
	}
	table[1] = 9
	if Table()[1] != 0x77073096 || Crc([]byte("a")) != 0xe8b7be43 {
		t.Error("P2.3: what is done to a table that was answered must not be seen (R5)")
	}
}

// burstOf goes through the bits one by one.
func burstOf(a, b []byte) (int, int) {
	if len(a) != len(b) {
		return -1, -1
	}
	first, last := -1, -1
	for k := range 8 * len(a) {
		if (a[k/8]^b[k/8])>>(k%8)&1 == 1 {
			if first < 0 {
				first = k
			}
			last = k
		}
	}
	if first < 0 {
		return 0, 0
	}
	return first, last - first + 1
}

func TestBurst(t *testing.T) {
	for _, c := range []struct {
		what    string
		a, b    string
		at, len int
	}{
		{"the first bit", "\x01\x80", "\x00\x80", 0, 1},
		{"across two bytes", "\x80\x01", "\x00\x00", 7, 2},
		{"the same", "\x01", "\x01", 0, 0},
		{"the same", "\x01\x02\x03", "\x01\x02\x03", 0, 0},
		{"nothing", "", "", 0, 0},
		{"not as many bytes", "\x01", "\x01\x02", -1, -1},
		{"not as many bytes", "\x01\x02", "\x01", -1, -1},
		{"nothing and one", "", "\x00", -1, -1},
		{"one and nothing", "\x00", "", -1, -1},
		{"the last bit", "\x00\x00\x80", "\x00\x00\x00", 23, 1},
		{"the first bit and the last one", "\x00\x00\x00", "\x01\x00\x80", 0, 24},
		{"one byte", "\x00\x3c\x00", "\x00\x00\x00", 10, 4},
		{"33 bits", "\x80\x00\x00\x00\x80", "\x00\x00\x00\x00\x00", 7, 33},
		{"all of 40 bits", "\xff\xff\xff\xff\xff", "\x00\x00\x00\x00\x00", 0, 40},
	} {
		if at, n := Burst([]byte(c.a), []byte(c.b)); at != c.at || n != c.len {
			t.Errorf("P2.4: %s: Burst(%x, %x) = %d, %d, not %d, %d", c.what, c.a, c.b, at, n, c.at, c.len)
		}
	}
	if at, n := Burst(nil, []byte{}); at != 0 || n != 0 {
		t.Errorf("P2.4: Burst(nil, empty) = %d, %d (R4)", at, n)
	}
}

func TestBurstOfAnyTexts(t *testing.T) {
	r := rand.New(rand.NewSource(9))
	texts := someTexts(r)
	for _, a := range texts {
		for range 30 {
			b := slices.Clone(a)
			for range r.Intn(4) {
				if len(b) > 0 {
					b[r.Intn(len(b))] ^= 1 << r.Intn(8)
				}
			}
			at, n := Burst(a, b)
			if wantAt, want := burstOf(a, b); at != wantAt || n != want {
				t.Errorf("P2.4: Burst(%x, %x) = %d, %d, not %d, %d", a, b, at, n, wantAt, want)
			}
			if backAt, back := Burst(b, a); backAt != at || back != n {
				t.Errorf("P2.4: Burst(%x, %x) is not what it is the other way round", b, a)
			}
		}
		for _, b := range texts {
			at, n := Burst(a, b)
			if wantAt, want := burstOf(a, b); at != wantAt || n != want {
				t.Errorf("P2.4: Burst(%x, %x) = %d, %d, not %d, %d", a, b, at, n, wantAt, want)
			}
		}
	}
}

func TestBurstsAreFound(t *testing.T) {
	r := rand.New(rand.NewSource(10))
	for _, b := range [][]byte{{}, {0}, []byte("123456789"), make([]byte, 40)} {
		whole := laidOut(b)
		for at := range 8 * len(whole) {
			for long := 1; long <= 32 && at+long <= 8*len(whole); long++ {
				other := changed(r, whole, at, long)
				if gotAt, n := Burst(whole, other); gotAt != at || n != long {
					t.Fatalf("P2.4: a burst of %d at %d is told as %d at %d", long, at, n, gotAt)
				}
				if Crc(other) == Crc(whole) {
					t.Fatalf("P2.1: a burst of %d at %d leaves the sum as it was", long, at)
				}
				if text := other[:len(b)]; bytes.Equal(laidOut(text), other) {
					t.Fatalf("P2.1: a burst of %d at %d is laid out with its sum", long, at)
				}
			}
		}
	}
}

// changed is b with a burst of long bits from the bit at on: its first and last bits, and any between.
func changed(r *rand.Rand, b []byte, at, long int) []byte {
	other := slices.Clone(b)
	for k := range long {
		if k == 0 || k == long-1 || r.Intn(2) == 0 {
			other[(at+k)/8] ^= 1 << ((at + k) % 8)
		}
	}
	return other
}

func TestArgumentsAreLeftAlone(t *testing.T) {
	room := []byte("123456789abc")
	kept := slices.Clone(room)
	a, b := room[:4], room[4:8]
	Crc(a)
	Go(3, a)
	Burst(a, b)
	if !bytes.Equal(room, kept) {
		t.Errorf("R5: an argument was changed: %q", room)
	}
}
