package tokens

import (
	"math"
	"math/rand"
	"testing"

	"tableau/api"
)

// wantText says how the token is written, wherever it stands; behind a place below 0 it may not be.
func wantText(t *testing.T, x api.Token, want string) {
	t.Helper()
	for _, at := range []int{0, 1, api.MaxSource, api.MaxSource + 1, math.MaxInt} {
		x.At = at
		if got := Text(x); got != want {
			t.Errorf("P8.3: Text(%v) = %q, not %q", x, got, want)
		}
	}
	for _, at := range []int{-1, math.MinInt} {
		x.At = at
		if got := Text(x); got != "" {
			t.Errorf("P8.3: Text(%v) = %q", x, got)
		}
	}
}

func TestTextOfTheExamples(t *testing.T) {
	wantText(t, api.Token{Kind: api.TkText, Text: `a"`}, `"a\""`)
	wantText(t, api.Token{Kind: api.TkNum, Num: 7, Text: "x"}, "")
}

func TestTextOfEachKind(t *testing.T) {
	wantText(t, api.Token{}, "")
	wantText(t, api.Token{Kind: api.TkName, Text: "aB_9"}, "aB_9")
	wantText(t, api.Token{Kind: api.TkNum}, "0")
	wantText(t, api.Token{Kind: api.TkNum, Num: 70}, "70")
	wantText(t, api.Token{Kind: api.TkNum, Num: math.MaxInt64}, "9223372036854775807")
	wantText(t, api.Token{Kind: api.TkText}, `""`)
	wantText(t, api.Token{Kind: api.TkText, Text: `\`}, `"\\"`)
	wantText(t, api.Token{Kind: api.TkText, Text: ` "\n" ~'`}, `" \"\\n\" ~'"`)
	for _, x := range edgeTokens() {
		wantText(t, x, written(x))
	}
	r := rand.New(rand.NewSource(12))
	for range 5000 {
		x := anyToken(r)
		wantText(t, x, written(x))
	}
}

// TestFieldsThatShouldBeZero: a field that the kind does not name makes it a token that may not be (R7).
func TestFieldsThatShouldBeZero(t *testing.T) {
	for _, n := range []int64{1, -1, 7, math.MaxInt64, math.MinInt64} {
		wantText(t, api.Token{Num: n}, "")
		for _, x := range edgeTokens() {
			if x.Kind != api.TkNum {
				x.Num = n
				wantText(t, x, "")
			}
		}
	}
	for _, s := range []string{"a", "0", "7", "=", " ", "\x00", "\n"} {
		wantText(t, api.Token{Text: s}, "")
		wantText(t, api.Token{Kind: api.TkNum, Text: s}, "")
		wantText(t, api.Token{Kind: api.TkNum, Num: 7, Text: s}, "")
	}
}

func TestNumbersBelowNought(t *testing.T) {
	for _, n := range []int64{-1, -7, math.MinInt32, math.MinInt64 + 1, math.MinInt64} {
		wantText(t, api.Token{Kind: api.TkNum, Num: n}, "")
	}
}

func TestKindsBeyondThoseNamed(t *testing.T) {
	for kind := math.MinInt8; kind <= math.MaxInt8; kind++ {
		if 0 <= kind && kind <= 4 {
			continue
		}
		wantText(t, api.Token{Kind: int8(kind)}, "")
		for _, x := range []api.Token{{Text: "a"}, {Num: 7}, {Text: "="}} {
			x.Kind = int8(kind)
			wantText(t, x, "")
		}
	}
}

func TestNamesThatAreNone(t *testing.T) {
	for _, s := range []string{"", "A", "Ab", "_", "_a", "0", "9a", " a", "a ", "a b", "a-b", "a.b", "a\n", "a\x00", "\xe4", "a\xe4", "aä", "=", times("x", 33), times("x", 100000), "x" + times("_", 32)} {
		wantText(t, api.Token{Kind: api.TkName, Text: s}, "")
	}
	for b := range 256 {
		first, later := "", ""
		if 'a' <= b && b <= 'z' {
			first = oneByte(b)
		}
		if behindOne.MatchString(oneByte(b)) {
			later = "x" + oneByte(b)
		}
		wantText(t, api.Token{Kind: api.TkName, Text: oneByte(b)}, first)
		wantText(t, api.Token{Kind: api.TkName, Text: "x" + oneByte(b)}, later)
	}
}

func TestTextsThatAreNone(t *testing.T) {
	for b := range 256 {
		for _, s := range []string{oneByte(b), "a" + oneByte(b), oneByte(b) + "a", times("x", 63) + oneByte(b)} {
			x := api.Token{Kind: api.TkText, Text: s}
			if b < 32 || b > 126 {
				wantText(t, x, "")
			} else {
				wantText(t, x, written(x))
			}
		}
	}
	for _, s := range []string{times("x", 65), times(`\`, 65), times(`"`, 65), times("x", 100000), times("x", 64) + "\n", "ä"} {
		wantText(t, api.Token{Kind: api.TkText, Text: s}, "")
	}
}

func TestMarksThatAreNone(t *testing.T) {
	marks := map[string]bool{}
	for _, s := range allMarks() {
		marks[s] = true
		wantText(t, api.Token{Kind: api.TkMark, Text: s}, s)
	}
	for a := range 256 {
		for b := range 257 {
			s := oneByte(a)
			if b < 256 {
				s += oneByte(b)
			}
			if got := Text(api.Token{Kind: api.TkMark, Text: s}); (got == s) != marks[s] || (got == "") == marks[s] {
				t.Fatalf("P8.3: Text of the mark %q = %q", s, got)
			}
		}
	}
	for _, s := range []string{"", "a", "//", "===", "&", "|", "=>", "<>", "{}", "= ", " =", "&&&", "++", times("=", 100000)} {
		wantText(t, api.Token{Kind: api.TkMark, Text: s}, "")
	}
}
