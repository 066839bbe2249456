package tokens

import (
	"math"
	"math/rand"
	"testing"
)

// wantLine says which line and column the place has.
func wantLine(t *testing.T, src string, at, line, column int) {
	t.Helper()
	if l, c := Line([]byte(src), at); l != line || c != column {
		t.Errorf("P8.2: Line(%q, %d) = %d, %d, not %d, %d", src, at, l, c, line, column)
	}
}

func TestLineOfTheExample(t *testing.T) {
	for _, c := range [][3]int{{0, 1, 1}, {1, 1, 2}, {2, 2, 1}, {3, 2, 2}, {4, 2, 3}, {5, 2, 4}, {6, 0, 0}, {-1, 0, 0}} {
		wantLine(t, "a\nb c", c[0], c[1], c[2])
	}
}

func TestLineAtTheEdges(t *testing.T) {
	for _, src := range []string{"", "a", "\n", "abc", "a\n", "\n\n\n", "#\x00\xff"} {
		for _, at := range []int{-1, -2, len(src) + 1, len(src) + 2, math.MinInt, math.MaxInt} {
			wantLine(t, src, at, 0, 0)
		}
		wantLine(t, src, 0, 1, 1)
	}
	for at := range 7 {
		wantLine(t, "abcdef", at, 1, 1+at)
	}
	wantLine(t, "abc\n", 3, 1, 4)
	wantLine(t, "abc\n", 4, 2, 1)
	wantLine(t, "\n\n\n", 1, 2, 1)
	wantLine(t, "\n\n\n", 2, 3, 1)
	wantLine(t, "\n\n\n", 3, 4, 1)
	wantLine(t, "a\r\nb", 2, 1, 3)
	wantLine(t, "a\r\nb", 3, 2, 1)
	wantLine(t, "a\r\tb\v\f\x85", 7, 1, 8)
	wantLine(t, "\xe2\x80\xa8x", 3, 1, 4)
	if l, c := Line(nil, 0); l != 1 || c != 1 {
		t.Errorf("P8.2: Line(nil, 0) = %d, %d", l, c)
	}
	if l, c := Line(nil, 1); l != 0 || c != 0 {
		t.Errorf("P8.2: Line(nil, 1) = %d, %d", l, c)
	}
}

// TestLineKnowsNoSpareRoom: what stands behind the list is no part of the source.
func TestLineKnowsNoSpareRoom(t *testing.T) {
	b := []byte("ab\ncd")
	if l, c := Line(b[:2], 3); l != 0 || c != 0 {
		t.Errorf("P8.2: beyond a list with spare room: %d, %d", l, c)
	}
	if l, c := Line(b[:2], 2); l != 1 || c != 3 {
		t.Errorf("P8.2: at the end of a list with spare room: %d, %d", l, c)
	}
}

// TestLineStepByStep goes through sources byte by byte, ones that are too long to be cut among them.
func TestLineStepByStep(t *testing.T) {
	r := rand.New(rand.NewSource(11))
	for range 300 {
		src := anyOf(r, r.Intn(60), []string{"a", "\n", "\r", " ", "\xff", "\"", "//", "\n\n"})
		seen := map[[2]int]int{}
		line, column := 1, 1
		for at := range len(src) + 1 {
			wantLine(t, src, at, line, column)
			l, c := Line([]byte(src), at)
			if other, twice := seen[[2]int{l, c}]; twice {
				t.Fatalf("P8.2: %q: the places %d and %d are both at %d, %d", src, other, at, l, c)
			}
			seen[[2]int{l, c}] = at
			column++
			if at < len(src) && src[at] == 10 {
				line, column = line+1, 1
			}
		}
	}
	long := times("x", 70000) + times("\n", 70000)
	wantLine(t, long, 69999, 1, 70000)
	wantLine(t, long, 70000, 1, 70001)
	wantLine(t, long, 70001, 2, 1)
	wantLine(t, long, 140000, 70001, 1)
}
