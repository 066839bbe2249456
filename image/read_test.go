package image

import (
	"bytes"
	"encoding/binary"
	"math/rand"
	"slices"
	"testing"

	"tableau/api"
	"tableau/state"
)

// wantFault says that the bytes are no image, and why.
func wantFault(t *testing.T, what string, b []byte, want api.Errno, place int) {
	t.Helper()
	s, err, at := Decode(b)
	if err != want || at != place {
		t.Errorf("P7.2: %s: %d, %d, not %d, %d", what, err, at, want, place)
	}
	if err != api.OK && !same(s, api.State{}) {
		t.Errorf("P7.2: %s: the state %v beside the error %d", what, s, err)
	}
}

// turned is b with another byte at that place.
func turned(b []byte, at int, n byte) []byte {
	b = bytes.Clone(b)
	b[at] = n
	return b
}

func TestDecodeOfTheExamples(t *testing.T) {
	b := smallImage()
	for _, c := range []struct {
		what string
		b    []byte
		err  api.Errno
		at   int
	}{
		{"nil", nil, api.ErrImage, 0},
		{"nothing", []byte{}, api.ErrImage, 0},
		{"two bytes", []byte{0x54, 0x42}, api.ErrImage, 2},
		{"another fourth byte", []byte{0x54, 0x42, 0x4c, 0x58}, api.ErrImage, 3},
		{"an out byte of 2", turned(b, 14, 2), api.ErrImage, 14},
		{"without its last byte", b[:90], api.ErrImage, 90},
		{"a byte more", append(bytes.Clone(b), 0), api.ErrImage, 91},
		{"Turn 0", turned(b, 87, 0), api.ErrState, 8},
		{"the version 2", turned(b, 4, 2), api.ErrImage, 4},
		{"cut within Turn", b[:86], api.ErrImage, 84},
		{"one player less: no card, four zones, Turn at 25", turned(b, 5, 1), api.ErrImage, 32},
	} {
		wantFault(t, c.what, c.b, c.err, c.at)
	}
}

func TestTheFirstFiveBytes(t *testing.T) {
	b := smallImage()
	for at := range 5 {
		for n := range 256 {
			if other := turned(b, at, byte(n)); other[at] != b[at] {
				wantFault(t, "another byte", other, api.ErrImage, at)
				wantFault(t, "another byte, and nothing behind", other[:at+1], api.ErrImage, at)
				wantFault(t, "two others", turned(other, 4, 9), api.ErrImage, at)
			}
		}
		wantFault(t, "cut there", b[:at], api.ErrImage, at)
	}
	wantFault(t, "other bytes than those", []byte("hello, world"), api.ErrImage, 0)
	wantFault(t, "small letters", []byte("tbls\x01"), api.ErrImage, 0)
	wantFault(t, "the first five alone", b[:5], api.ErrImage, 5)
}

// TestBeginnings cuts images at every place: told is where the number begins of which the first byte is missing, or a later one.
func TestBeginnings(t *testing.T) {
	for _, s := range []api.State{small(), dealt(2, 1), dealt(3, 5), dealt(4, 40), dealt(2, api.MaxCards), allInOneZone(3)[7]} {
		l := lay(s)
		for end := range l.b {
			i, found := slices.BinarySearch(l.begins, end)
			if !found {
				i--
			}
			wantFault(t, "a beginning", l.b[:end], api.ErrImage, l.begins[i])
			room := l.b[:end:end]
			wantFault(t, "a beginning without room behind", room, api.ErrImage, l.begins[i])
		}
	}
}

func TestMoreBehindAnImage(t *testing.T) {
	for _, s := range []api.State{small(), dealt(3, 5), dealt(4, api.MaxCards)} {
		b := lay(s).b
		for _, more := range [][]byte{{0}, {1}, {255}, {0, 0}, make([]byte, 1000), b} {
			wantFault(t, "more behind", append(bytes.Clone(b), more...), api.ErrImage, len(b))
		}
	}
}

func TestOutBytes(t *testing.T) {
	for players := 2; players <= api.MaxPlayers; players++ {
		b := lay(dealt(players, 3)).b
		for i, at := range outs(players) {
			for n := 2; n < 256; n++ {
				wantFault(t, "an out byte", turned(b, at, byte(n)), api.ErrImage, at)
			}
			wantFault(t, "an out byte, and nothing behind", turned(b, at, 2)[:at+1], api.ErrImage, at)
			wantFault(t, "an out byte that is missing", b[:at], api.ErrImage, at)
			wantFault(t, "an out byte, and another behind it", turned(turned(b, at, 255), outs(players)[players-1], 7), api.ErrImage, at)
			for n := range 2 {
				s, err, _ := Decode(turned(b, at, byte(n)))
				if err != api.OK || s.Players[i].Out != (n == 1) {
					t.Errorf("P7.2: an out byte of %d is read as %v, %d", n, s.Players, err)
				}
			}
		}
	}
}

// TestTheFirstFaultFromTheLeft lays several faults into one text of bytes.
func TestTheFirstFaultFromTheLeft(t *testing.T) {
	b := smallImage()
	for _, c := range []struct {
		what string
		b    []byte
		err  api.Errno
		at   int
	}{
		{"a mark and an out byte", turned(turned(b, 2, 0), 14, 2), api.ErrImage, 2},
		{"an out byte and a cut", turned(b, 14, 2)[:50], api.ErrImage, 14},
		{"a cut ahead of an out byte", turned(b, 23, 2)[:21], api.ErrImage, 19},
		{"an out byte and more behind", append(turned(b, 23, 2), 0), api.ErrImage, 23},
		{"an out byte and Turn 0", turned(turned(b, 14, 2), 87, 0), api.ErrImage, 14},
		{"Turn 0 and more behind", append(turned(b, 87, 0), 0), api.ErrImage, 91},
		{"Turn 0 and a cut", turned(b, 87, 0)[:90], api.ErrImage, 90},
		{"a Life that is none and a cut", turned(b, 6, 0x7f)[:70], api.ErrImage, 70},
		{"a Life that is none and Turn 0", turned(turned(b, 6, 0x7f), 87, 0), api.ErrState, 1},
		{"a Kind that is none and a Whose that is none", turned(turned(b, 26, 1), 88, 9), api.ErrState, 3},
	} {
		wantFault(t, c.what, c.b, c.err, c.at)
	}
}

func TestStatesThatMayNotBe(t *testing.T) {
	seen := map[int]bool{}
	for _, w := range wrongs() {
		if err, at := state.Check(w.s); err != api.ErrState || at != w.at {
			t.Fatalf("the test is wrong: %s: %d, %d, not %d", w.what, err, at, w.at)
		}
		seen[w.at] = true
		l := lay(w.s)
		wantFault(t, w.what, l.b, api.ErrState, w.at)
		wantFault(t, w.what+", a byte less", l.b[:len(l.b)-1], api.ErrImage, len(l.b)-1)
		wantFault(t, w.what+", a byte more", append(l.b, 0), api.ErrImage, len(l.b))
	}
	for at := range 17 {
		// Behind as many good entries as cards each card is an entry: of the thing 12 of these states nothing can be wrong.
		if !seen[at] && at != 12 {
			t.Errorf("the test is wrong: no state of which the thing %d is not so", at)
		}
	}
}

// TestNumbersBeyondWithoutTheirBytes says that so many things are there, of which none is, one, or all but the last byte.
func TestNumbersBeyondWithoutTheirBytes(t *testing.T) {
	s := dealt(2, 3)
	for _, players := range []int{3, 5, 128, 255} {
		b := lay(dealt(players, 3)).b
		wantFault(t, "players, none there", b[:6], api.ErrImage, 6)
		wantFault(t, "players, one there", b[:15], api.ErrImage, 15)
		wantFault(t, "players, a byte too few", b[:5+9*players], api.ErrImage, 6+9*players-1)
		wantFault(t, "players, and no cards", b[:6+9*players], api.ErrImage, 6+9*players)
	}
	for _, cards := range []int{4, 256, 257, 32768, 65535} {
		b := binary.BigEndian.AppendUint16(bytes.Clone(lay(s).b[:24]), uint16(cards))
		wantFault(t, "cards, none there", b, api.ErrImage, 26)
		wantFault(t, "cards, one there", append(b, make([]byte, 19)...), api.ErrImage, 45)
		wantFault(t, "cards, a byte too few", append(b, make([]byte, 19*cards-1)...), api.ErrImage, 26+19*cards-4)
		wantFault(t, "cards, and no zones", append(b, make([]byte, 19*cards)...), api.ErrImage, 26+19*cards)
	}
	for _, entries := range []int{4, 256, 257, 32768, 65535} {
		b := binary.BigEndian.AppendUint16(bytes.Clone(lay(s).b[:83]), uint16(entries))
		wantFault(t, "entries, none there", b, api.ErrImage, 85)
		wantFault(t, "entries, one there", append(b, 0, 0), api.ErrImage, 87)
		wantFault(t, "entries, a byte too few", append(b, make([]byte, 2*entries-1)...), api.ErrImage, 85+2*entries-2)
		wantFault(t, "entries, and no zone behind", append(b, make([]byte, 2*entries)...), api.ErrImage, 85+2*entries)
	}
}

// TestNoPlayers reads no zone, where there is nobody to hold one.
func TestNoPlayers(t *testing.T) {
	b := append([]byte("TBLS\x01"), 0, 0, 0, 0, 0, 0, 1, 0, 0, 0)
	wantFault(t, "no players, no cards", b, api.ErrState, 0)
	wantFault(t, "no players, a zone", append(b, 0, 0), api.ErrImage, len(b))
	wantFault(t, "noughts alone behind the version", append([]byte("TBLS\x01"), make([]byte, 10)...), api.ErrState, 0)
}

// TestAllOtherBytes turns each byte of images into each other one: what is read is another state whose image that is, or refused.
func TestAllOtherBytes(t *testing.T) {
	for _, s := range []api.State{small(), dealt(3, 2)} {
		b := lay(s).b
		for at := range b {
			for n := range 256 {
				other := turned(b, at, byte(n))
				got, err, place := Decode(other)
				switch {
				case err == api.OK:
					if !bytes.Equal(lay(got).b, other) || place != 0 || same(got, s) != bytes.Equal(other, b) {
						t.Fatalf("P7.2: the byte %d turned to %d: %v, %d", at, n, got, place)
					}
				case err != api.ErrImage && err != api.ErrState || !same(got, api.State{}) || place < 0 || place > len(other):
					t.Fatalf("P7.2: the byte %d turned to %d: %v, %d, %d", at, n, got, err, place)
				}
			}
		}
	}
}

// TestAnyBytes has images spoiled by chance, and bytes by chance: Encode leads back to whatever is read.
func TestAnyBytes(t *testing.T) {
	r := rand.New(rand.NewSource(2))
	for range 20000 {
		b := lay(anyState(r)).b
		for range r.Intn(4) {
			b[r.Intn(len(b))] = byte(r.Intn(256))
		}
		if r.Intn(4) == 0 {
			b = b[:r.Intn(len(b)+1)]
		}
		if r.Intn(4) == 0 {
			b = append([]byte("TBLS\x01"), b...)
		}
		s, err, _ := Decode(b)
		if err != api.OK {
			continue
		}
		if back, err := Encode(s); err != api.OK || !bytes.Equal(back, b) {
			t.Fatalf("P7.2: %x is read as %v, whose image is %x, %d", b, s, back, err)
		}
	}
}
