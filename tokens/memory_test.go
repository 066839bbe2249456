package tokens

import (
	"bytes"
	"slices"
	"testing"
	"unsafe"

	"tableau/api"
)

// sources are ones with and without faults, of each kind of token.
func sources() []string {
	return []string{
		"", " ", "//a", "a", "abc de_F 12 0", `card "Fox" { cost 1; }`, `"a\"b\\c" "plain" ""`, "a&&b||c<=d//e\n!f",
		"#", "a #", "01", "\"open", "\"a\\n\"", "\"a\x01\"", times("x", 33), `"` + times("x", 65) + `"`, "9223372036854775808",
		times(" ", api.MaxSource), times("ab ", 20000), times("#", api.MaxSource+1),
	}
}

// roomy is the source with spare room behind it, in which what would be tokens stands.
func roomy(src string) []byte {
	whole := []byte(src + "\"7a\n")
	return whole[:len(src)]
}

// spoil writes over all of the tokens, spare room too.
func spoil(list []api.Token) {
	list = list[:cap(list)]
	for i := range list {
		list[i] = api.Token{Kind: -9, Text: "spoiled", Num: -9, At: -9}
	}
}

func TestTheSourceStaysAsItWas(t *testing.T) {
	for _, src := range sources() {
		b := roomy(src)
		before := bytes.Clone(b[:cap(b)])
		list, _, _ := Cut(b)
		spoil(list)
		for _, at := range []int{-1, 0, len(b) / 2, len(b), len(b) + 1} {
			Line(b, at)
		}
		if !bytes.Equal(b[:cap(b)], before) {
			t.Errorf("P8.1, P8.2: the source %.20q is changed (R5)", src)
		}
	}
}

// TestSpareRoomIsNoPartOfTheSource: a token ends with the list, whatever stands behind it in memory.
func TestSpareRoomIsNoPartOfTheSource(t *testing.T) {
	for _, src := range append(sources(), "1", "=", "/", "\"a", "a\\", "&", "\"\\") {
		want, wantErr, wantAt := modelCut(src)
		for _, behind := range []string{"x", "1", "=", "/", "\"", "&", "\n", "|"} {
			whole := []byte(src + behind)
			got, err, at := Cut(whole[:len(src)])
			if !slices.Equal(got, want) || err != wantErr || at != wantAt {
				t.Errorf("P8.1: %.20q with %q in its spare room: %d tokens, %d, %d", src, behind, len(got), err, at)
			}
		}
	}
}

func TestTokensHaveTheirOwnMemory(t *testing.T) {
	for _, src := range sources() {
		b := roomy(src)
		first, _, _ := Cut(b)
		second, _, _ := Cut(b)
		want, _, _ := modelCut(src)
		for i := range b[:cap(b)] {
			b[:cap(b)][i] = '#'
		}
		if !slices.Equal(first, want) {
			t.Errorf("P8.1: the tokens of %.20q are others behind the source was spoiled (R5)", src)
		}
		spoil(first)
		if !slices.Equal(second, want) {
			t.Errorf("P8.1: the tokens of %.20q are others behind other ones were spoiled (R5)", src)
		}
		if again, _, _ := Cut([]byte(src)); !slices.Equal(again, want) {
			t.Errorf("P8.1: the tokens of %.20q are others the next time (R5, R6)", src)
		}
	}
}

func TestTextsHaveTheirOwnMemory(t *testing.T) {
	for _, x := range edgeTokens() {
		if s := Text(x); s != "" && x.Text != "" && unsafe.StringData(s) == unsafe.StringData(x.Text) {
			t.Errorf("P8.3: Text(%v) shares memory with the token (R5)", x)
		}
	}
}
