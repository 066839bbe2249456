package code_test

import (
	"bytes"
	"fmt"
	"math/rand"
	"slices"
	"strings"
	"testing"

	"tableau/api"
	"tableau/code"
)

// wantThing holds the three forms of right code against each other, and tells whether they are so.
func wantThing(t *testing.T, x thing) bool {
	t.Helper()
	b, err, number := code.Put(x.l...)
	l, why, at := code.All(x.b)
	s := code.Text(x.l)
	m, fault, row := code.Parse(x.s)
	ok := true
	say := func(right bool, promise string, got, want any) {
		t.Helper()
		if !right {
			t.Errorf("%s: %.300v, not %.300v", promise, got, want)
			ok = false
		}
	}
	say(bytes.Equal(b, x.b) && err == api.OK && number == 0, "P16.4: Put", fmt.Sprint(b, int(err), number), x.b)
	say(slices.Equal(l, x.l) && why == api.OK && at == 0, "P16.3: All", fmt.Sprint(l, int(why), at), x.l)
	say(s == x.s, "P16.5: Text", s, x.s)
	say(slices.Equal(m, x.l) && fault == api.OK && row == 0, "P16.6: Parse", fmt.Sprint(m, int(fault), row), x.l)
	return ok
}

func TestThereAndBackOfEachOpcode(t *testing.T) {
	for _, a := range accounts() {
		for _, n := range a.edges() {
			var x thing
			x.add(a, n...)
			x.add(accounts()[0], 515)
			x.add(a, n...)
			if !wantThing(t, x) {
				return
			}
		}
	}
}

func TestThereAndBackOfMany(t *testing.T) {
	r := rand.New(rand.NewSource(1))
	for range 3000 {
		if !wantThing(t, anyThing(r, r.Intn(30))) {
			return
		}
	}
	wantThing(t, anyThing(r, 5000))
	wantThing(t, full(65535))
}

// TestBeginnings: of right code each beginning that ends at an offset is code; one that ends within an instruction is cut there.
func TestBeginnings(t *testing.T) {
	r := rand.New(rand.NewSource(2))
	for range 300 {
		x := anyThing(r, 1+r.Intn(12))
		offsets := map[int]int{len(x.b): len(x.l)}
		for i, y := range x.l {
			offsets[y.At] = i
		}
		last := 0
		for end := range len(x.b) + 1 {
			l, err, at := code.All(x.b[:end])
			if i, ok := offsets[end]; ok {
				last = end
				if !slices.Equal(l, x.l[:i]) || err != api.OK || at != 0 {
					t.Fatalf("P16.3: All(% x) = %v, %d, %d", x.b[:end], l, int(err), at)
				}
			} else if len(l) > 0 || err != api.ErrCut || at != last {
				t.Fatalf("P16.3: All(% x) = %v, %d, %d, not ErrCut, %d", x.b[:end], l, int(err), at, last)
			}
		}
	}
}

// TestFiveBytesSayIt: what is read at a place hangs on at most five bytes from there on.
func TestFiveBytesSayIt(t *testing.T) {
	r := rand.New(rand.NewSource(3))
	for range 20000 {
		b := anyBytes(r, 8)
		at := r.Intn(len(b) + 1)
		x, err := code.Read(b, at)
		few, why := code.Read(b[at:min(at+5, len(b))], 0)
		if err == api.OK {
			few.At = at
		}
		if x != few || err != why {
			t.Fatalf("P16.2: Read(% x, %d) = %v, %d; of five bytes from there on %v, %d", b, at, x, int(err), few, int(why))
		}
	}
}

// anyBytes are up to so many bytes, most of them opcodes.
func anyBytes(r *rand.Rand, most int) []byte {
	b := make([]byte, r.Intn(most+1))
	for i := range b {
		b[i] = byte(r.Intn(256))
		if l := accounts(); r.Intn(3) > 0 {
			b[i] = l[r.Intn(len(l))].op
		}
	}
	return b
}

// TestAnyBytes holds Read and All against the model, and what All reads against Put.
func TestAnyBytes(t *testing.T) {
	r := rand.New(rand.NewSource(4))
	for range 20000 {
		b := anyBytes(r, 12)
		for at := -2; at <= len(b)+1; at++ {
			want, why := modelRead(b, at)
			wantRead(t, b, at, want, why)
		}
		want, why, where := modelAll(b)
		wantAll(t, b, want, why, where)
		if l, err, _ := code.All(b); err == api.OK {
			if c, err, number := code.Put(l...); !bytes.Equal(b, c) || err != api.OK || number != 0 {
				t.Errorf("P16.4: Put of what All reads of % x: % x, %d, %d", b, c, int(err), number)
			}
		}
		if t.Failed() {
			return
		}
	}
}

// bent is right instructions with one thing or two of them changed.
func bent(r *rand.Rand, l []api.Instr) []api.Instr {
	l = slices.Clone(l)
	for range 1 + r.Intn(2) {
		if len(l) == 0 {
			return l
		}
		i := r.Intn(len(l))
		x := &l[i]
		odd := []int{-1, 0, 1, 2, 255, 256, 257, 65535, 65536, r.Int(), -r.Int()}[r.Intn(11)]
		switch r.Intn(8) {
		case 0:
			x.At = odd
		case 1:
			x.At += r.Intn(5) - 2
		case 2:
			x.A = odd
		case 3:
			x.B = odd
		case 4:
			x.C = odd
		case 5:
			x.Op = byte(r.Intn(256))
		case 6:
			l = slices.Delete(l, i, i+1)
		case 7:
			l = slices.Insert(l, i, *x)
		}
	}
	return l
}

// TestAnyInstructions holds Put and Text against the model, and what is right against All and Parse.
func TestAnyInstructions(t *testing.T) {
	r := rand.New(rand.NewSource(5))
	for range 20000 {
		l := bent(r, anyThing(r, r.Intn(8)).l)
		want, why, which := modelPut(l)
		wantPut(t, l, want, why, which)
		if why == api.OK {
			wantAll(t, want, l, api.OK, 0)
			wantParse(t, code.Text(l), l, api.OK, 0)
		}
		if t.Failed() {
			return
		}
	}
}

// torn is a text with one thing or two of it changed.
func torn(r *rand.Rand, s string) string {
	for range 1 + r.Intn(2) {
		at := r.Intn(len(s) + 1)
		to := min(at+r.Intn(3), len(s))
		between := []string{"", " ", "\n", "0", "1", "-", "+", "\r\n", "9223372036854775807", "9223372036854775808", "add", "load", "a", "\t", "\xff", "255", "256", "0 add\n", "0 each 0 0 0\n"}[r.Intn(19)]
		s = s[:at] + between + s[to:]
	}
	return s
}

// TestAnyTexts holds Parse against the model, and Text of what it answers against the text.
func TestAnyTexts(t *testing.T) {
	r := rand.New(rand.NewSource(6))
	for range 20000 {
		s := torn(r, anyThing(r, r.Intn(6)).s)
		want, why, which := modelParse(s)
		wantParse(t, s, want, why, which)
		if l, err, _ := code.Parse(s); err == api.OK {
			wantText(t, l, s)
		}
		if t.Failed() {
			return
		}
	}
}

// TestOneText: instructions have just one text, code just one row of instructions.
func TestOneText(t *testing.T) {
	r := rand.New(rand.NewSource(7))
	byText := map[string]string{}
	for range 3000 {
		x := anyThing(r, r.Intn(3))
		if other, seen := byText[x.s]; seen && other != string(x.b) {
			t.Fatalf("P16.5: % x and % x have one text: %q", other, x.b, x.s)
		}
		byText[code.Text(x.l)] = string(x.b)
		if strings.Count(x.s, "\n") != len(x.l) {
			t.Fatalf("P16.5: %d rows of %d instructions", strings.Count(x.s, "\n"), len(x.l))
		}
	}
}
