package tokens

import (
	"math"
	"math/big"
	"math/rand"
	"regexp"
	"slices"
	"strings"
	"testing"

	"tableau/api"
)

// The document's words as patterns, each of what may stand where the cutter is.
var (
	passedOver = regexp.MustCompile(`^(?:[\t\n\r ]|//[^\n]*)+`)
	aName      = regexp.MustCompile(`^[a-z][A-Za-z0-9_]*`)
	aNumber    = regexp.MustCompile(`^(?:0|[1-9][0-9]*)`)
	behindOne  = regexp.MustCompile(`^[A-Za-z0-9_]`)
	textSaid   = regexp.MustCompile(`^"(?:[ !#-\[\]-~]|\\["\\])*`)
	aMark      = regexp.MustCompile(`^(?:==|!=|<=|>=|&&|\|\||[{}();,.=!<>+*/%-])`)
)

// allMarks are those of the document's table.
func allMarks() []string {
	return strings.Fields("{ } ( ) ; , . = == ! != < <= > >= + - * / % && ||")
}

// modelCut cuts by the patterns.
func modelCut(src string) ([]api.Token, api.Errno, int) {
	if len(src) > 65536 {
		return nil, api.ErrLong, 65536
	}
	list := []api.Token{}
	for at := 0; ; {
		at += len(passedOver.FindString(src[at:]))
		if at == len(src) {
			return append(list, api.Token{At: at}), api.OK, 0
		}
		t, long, fault := modelToken(src[at:])
		if fault >= 0 {
			return nil, api.ErrLex, at + fault
		}
		t.At = at
		list = append(list, t)
		at += long
	}
}

// modelToken is the first token, how many bytes it has, and -1; or the place of its fault.
func modelToken(src string) (t api.Token, long, fault int) {
	if s := aName.FindString(src); s != "" {
		if len(s) > 32 {
			return t, 0, 0
		}
		return api.Token{Kind: api.TkName, Text: s}, len(s), -1
	}
	if s := aNumber.FindString(src); s != "" {
		n, _ := new(big.Int).SetString(s, 10)
		if n.Cmp(big.NewInt(math.MaxInt64)) > 0 {
			return t, 0, 0
		}
		if behindOne.MatchString(src[len(s):]) {
			return t, 0, len(s)
		}
		return api.Token{Kind: api.TkNum, Num: n.Int64()}, len(s), -1
	}
	if s := textSaid.FindString(src); s != "" {
		return modelText(src, s)
	}
	if s := aMark.FindString(src); s != "" {
		return api.Token{Kind: api.TkMark, Text: s}, len(s), -1
	}
	return t, 0, 0
}

// modelText: s is the text up to the first byte that it can't have within.
func modelText(src, s string) (t api.Token, long, fault int) {
	rest := src[len(s):]
	if rest == "" || rest[0] == '\n' {
		return t, 0, 0
	}
	if rest[0] != '"' {
		return t, 0, len(s)
	}
	says := strings.NewReplacer(`\\`, `\`, `\"`, `"`).Replace(s[1:])
	if len(says) > 64 {
		return t, 0, 0
	}
	return api.Token{Kind: api.TkText, Text: says}, len(s) + 1, -1
}

// wantAsModel says that the source is cut as the patterns cut it, and tells whether that is without an error.
func wantAsModel(t *testing.T, src string) bool {
	t.Helper()
	want, wantErr, wantAt := modelCut(src)
	got, err, at := Cut([]byte(src))
	if !slices.Equal(got, want) || err != wantErr || at != wantAt {
		t.Fatalf("P8.1: Cut(%q) = %v, %d, %d, not %v, %d, %d", src, got, err, at, want, wantErr, wantAt)
	}
	return err == api.OK
}

// anyOf is a list of n things out of l, by chance, one behind the other.
func anyOf(r *rand.Rand, n int, l []string) string {
	var b strings.Builder
	for range n {
		b.WriteString(l[r.Intn(len(l))])
	}
	return b.String()
}

// anyText is what a text may say, by chance.
func anyText(r *rand.Rand, n int) string {
	b := make([]byte, n)
	for i := range b {
		b[i] = byte(32 + r.Intn(95))
		if r.Intn(3) == 0 {
			b[i] = `"\`[r.Intn(2)]
		}
	}
	return string(b)
}

// anyToken is one that may be, but no TkEnd.
func anyToken(r *rand.Rand) api.Token {
	switch r.Intn(4) {
	case 0:
		letters := strings.Split("abcdefghijklmnopqrstuvwxyzABCDEFGHIJKLMNOPQRSTUVWXYZ0123456789_", "")
		return api.Token{Kind: api.TkName, Text: anyOf(r, 1, letters[:26]) + anyOf(r, r.Intn(api.MaxName), letters)}
	case 1:
		return api.Token{Kind: api.TkNum, Num: r.Int63() >> r.Intn(64)}
	case 2:
		return api.Token{Kind: api.TkText, Text: anyText(r, r.Intn(api.MaxText+1))}
	}
	return api.Token{Kind: api.TkMark, Text: allMarks()[r.Intn(len(allMarks()))]}
}

// written is how the document's table writes a token that may be.
func written(t api.Token) string {
	switch t.Kind {
	case api.TkNum:
		return big.NewInt(t.Num).String()
	case api.TkText:
		return `"` + strings.NewReplacer(`\`, `\\`, `"`, `\"`).Replace(t.Text) + `"`
	}
	return t.Text
}

// edgeTokens are those that may be, at the ends that the document names.
func edgeTokens() []api.Token {
	l := []api.Token{}
	for _, s := range []string{"a", "z", "aA", "aZ", "a_", "a0", "z9", "aB_9", "card", strings.Repeat("x", 31), strings.Repeat("x", 32), "a" + strings.Repeat("_", 31)} {
		l = append(l, api.Token{Kind: api.TkName, Text: s})
	}
	for _, n := range []int64{0, 1, 9, 10, 19, 100, math.MaxInt32, 1 << 32, math.MaxInt64 - 1, math.MaxInt64} {
		l = append(l, api.Token{Kind: api.TkNum, Num: n})
	}
	for _, s := range []string{"", " ", "~", "a", `"`, `\`, `\"`, `"\`, `\\`, `""`, "//", "a//b", `\n`, "'", "{ }", strings.Repeat("x", 63), strings.Repeat("x", 64), strings.Repeat(`"`, 64), strings.Repeat(`\`, 64)} {
		l = append(l, api.Token{Kind: api.TkText, Text: s})
	}
	for b := byte(32); b <= 126; b++ {
		l = append(l, api.Token{Kind: api.TkText, Text: string([]byte{b})})
	}
	for _, s := range allMarks() {
		l = append(l, api.Token{Kind: api.TkMark, Text: s})
	}
	return l
}
