package tokens

import (
	"math/rand"
	"slices"
	"strings"
	"testing"

	"tableau/api"
)

func nameAt(s string, at int) api.Token { return api.Token{Kind: api.TkName, Text: s, At: at} }
func numAt(n int64, at int) api.Token   { return api.Token{Kind: api.TkNum, Num: n, At: at} }
func textAt(s string, at int) api.Token { return api.Token{Kind: api.TkText, Text: s, At: at} }
func markAt(s string, at int) api.Token { return api.Token{Kind: api.TkMark, Text: s, At: at} }
func endAt(at int) api.Token            { return api.Token{At: at} }
func listOf(l ...api.Token) []api.Token { return l }
func times(s string, many int) string   { return strings.Repeat(s, many) }
func oneByte(b int) string              { return string([]byte{byte(b)}) }
func contains(list string, b byte) bool { return strings.IndexByte(list, b) >= 0 }

// wantTokens says that the source is cut into just these.
func wantTokens(t *testing.T, src string, want ...api.Token) {
	t.Helper()
	got, err, at := Cut([]byte(src))
	if !slices.Equal(got, want) || err != api.OK || at != 0 {
		t.Errorf("P8.1: Cut(%q) = %v, %d, %d, not %v", src, got, err, at, want)
	}
}

// wantLex says that the source has its first fault at the place, and that nothing is told beside it.
func wantLex(t *testing.T, src string, place int) {
	t.Helper()
	got, err, at := Cut([]byte(src))
	if len(got) != 0 || err != api.ErrLex || at != place {
		t.Errorf("P8.1: Cut(%q) = %v, %d, %d, not ErrLex at %d", src, got, err, at, place)
	}
}

func TestExamplesOfTheDocument(t *testing.T) {
	wantTokens(t, `card "Fox"`, nameAt("card", 0), textAt("Fox", 5), endAt(10))
	wantTokens(t, "a<=b==-1//x\n!", nameAt("a", 0), markAt("<=", 1), nameAt("b", 3), markAt("==", 4), markAt("-", 6), numAt(1, 7), markAt("!", 12), endAt(13))
	wantTokens(t, "", endAt(0))
	wantTokens(t, " ", endAt(1))
	wantTokens(t, "0", numAt(0, 0), endAt(1))
	wantLex(t, "01", 1)
	wantLex(t, "9a", 1)
	wantTokens(t, "9223372036854775807", numAt(1<<63-1, 0), endAt(19))
	wantLex(t, "9223372036854775808x", 0)
	wantTokens(t, "aB_9", nameAt("aB_9", 0), endAt(4))
	wantLex(t, "Ab", 0)
	wantLex(t, "_a", 0)
	wantLex(t, " "+times("x", 33), 1)
	wantTokens(t, `"a\"\\"`, textAt(`a"\`, 0), endAt(7))
	wantLex(t, `"a`, 0)
	wantLex(t, `"a\n"`, 2)
	wantLex(t, "\"a\t", 2)
	wantLex(t, "\"\n", 0)
	wantLex(t, "a & b", 2)
	wantLex(t, "a#", 1)
	wantTokens(t, "=!", markAt("=", 0), markAt("!", 1), endAt(2))
	wantTokens(t, "// \xc8", endAt(4))
	wantLex(t, "a \xc8", 2)
	if l, err, at := Cut([]byte(times(" ", 65537))); len(l) != 0 || err != api.ErrLong || at != 65536 {
		t.Errorf("P8.1: 65537 blanks: %v, %d, %d", l, err, at)
	}
}

func TestNothingToCut(t *testing.T) {
	for _, src := range [][]byte{nil, {}} {
		l, err, at := Cut(src)
		if !slices.Equal(l, listOf(endAt(0))) || err != api.OK || at != 0 {
			t.Errorf("P8.1: no byte: %v, %d, %d (R4)", l, err, at)
		}
	}
	for _, blank := range []string{"\t", "\n", "\r", " "} {
		wantTokens(t, blank, endAt(1))
		wantTokens(t, blank+blank+"a"+blank, nameAt("a", 2), endAt(4))
	}
	wantTokens(t, " \t\r\n \n\r\t", endAt(8))
}

func TestRemarks(t *testing.T) {
	wantTokens(t, "//", endAt(2))
	wantTokens(t, "//\n", endAt(3))
	wantTokens(t, "a//b", nameAt("a", 0), endAt(4))
	wantTokens(t, "a//b\nc", nameAt("a", 0), nameAt("c", 5), endAt(6))
	wantTokens(t, "//\r a", endAt(5))
	wantTokens(t, "//\n//\na", nameAt("a", 6), endAt(7))
	wantTokens(t, "///a\nb", nameAt("b", 5), endAt(6))
	wantTokens(t, "// \" // \\ \"\n7", numAt(7, 12), endAt(13))
	wantTokens(t, "1//2", numAt(1, 0), endAt(4))
	wantTokens(t, "=//=\n=", markAt("=", 0), markAt("=", 5), endAt(6))
	wantTokens(t, `"//"`, textAt("//", 0), endAt(4))
	wantTokens(t, "\"a//b\"//c\nd", textAt("a//b", 0), nameAt("d", 10), endAt(11))
	wantLex(t, "//a\n#", 4)
	all := ""
	for b := range 256 {
		if b == 10 {
			continue
		}
		all += oneByte(b)
		wantTokens(t, "//"+oneByte(b), endAt(3))
		wantTokens(t, "x //"+oneByte(b)+"\ny", nameAt("x", 0), nameAt("y", 6), endAt(7))
	}
	wantTokens(t, "//"+all+"\n!", markAt("!", 258), endAt(259))
}

func TestSlashes(t *testing.T) {
	wantTokens(t, "/", markAt("/", 0), endAt(1))
	wantTokens(t, "a/", nameAt("a", 0), markAt("/", 1), endAt(2))
	wantTokens(t, "a/b", nameAt("a", 0), markAt("/", 1), nameAt("b", 2), endAt(3))
	wantTokens(t, "/ /", markAt("/", 0), markAt("/", 2), endAt(3))
	wantTokens(t, "/\n/", markAt("/", 0), markAt("/", 2), endAt(3))
	wantTokens(t, "/=", markAt("/", 0), markAt("=", 1), endAt(2))
	wantTokens(t, "/*a*/", markAt("/", 0), markAt("*", 1), nameAt("a", 2), markAt("*", 3), markAt("/", 4), endAt(5))
}

func TestNames(t *testing.T) {
	for _, s := range []string{"a", "z", "aZ", "zA", "a_", "a__", "m0", "m9", "card", "on", "true", "aB_9xYz", times("x", 31), times("x", 32), "x" + times("9", 31), "x" + times("_", 31), "x" + times("Q", 31)} {
		wantTokens(t, s, nameAt(s, 0), endAt(len(s)))
		wantTokens(t, "\n"+s+";", nameAt(s, 1), markAt(";", 1+len(s)), endAt(2+len(s)))
	}
	for _, s := range []string{times("x", 33), times("x", 1000), "x" + times("9", 32), "x" + times("_", 32), "x" + times("Q", 32)} {
		wantLex(t, s, 0)
		wantLex(t, "ok "+s, 3)
		wantLex(t, s+"#", 0)
	}
	for _, s := range []string{"A", "Z", "_", "Ab", "_a", "__"} {
		wantLex(t, s, 0)
		wantLex(t, "  "+s, 2)
	}
	for b := range 256 {
		inside := behindOne.MatchString(oneByte(b))
		if l, _, _ := Cut([]byte("a" + oneByte(b))); inside != slices.Equal(l, listOf(nameAt("a"+oneByte(b), 0), endAt(2))) {
			t.Errorf("P8.1: a and the byte %d: %v", b, l)
		}
	}
}

func TestNumbers(t *testing.T) {
	for s, n := range map[string]int64{"0": 0, "1": 1, "9": 9, "10": 10, "109": 109, "1000000000": 1e9, "4294967296": 1 << 32, "9223372036854775806": 1<<63 - 2, "9223372036854775807": 1<<63 - 1} {
		wantTokens(t, s, numAt(n, 0), endAt(len(s)))
		wantTokens(t, "-"+s+")", markAt("-", 0), numAt(n, 1), markAt(")", 1+len(s)), endAt(2+len(s)))
		for _, b := range "azAZ_" {
			wantLex(t, s+string(b), len(s))
			wantLex(t, " "+s+string(b)+"9", 1+len(s))
		}
	}
	for _, d := range "0123456789" {
		wantLex(t, "0"+string(d), 1)
		wantLex(t, " 0"+string(d)+"5", 2)
	}
	wantLex(t, "00", 1)
	wantLex(t, "0x1", 1)
	wantLex(t, "1e9", 1)
	wantLex(t, "1_0", 1)
	wantTokens(t, "1.5", numAt(1, 0), markAt(".", 1), numAt(5, 2), endAt(3))
	wantLex(t, "1.05", 3)
	wantTokens(t, "0 1", numAt(0, 0), numAt(1, 2), endAt(3))
	wantTokens(t, `0"a"`, numAt(0, 0), textAt("a", 1), endAt(4))
	for _, s := range []string{"9223372036854775808", "9223372036854775810", "9300000000000000000", "18446744073709551615", "18446744073709551616", "18446744073709551617", "10000000000000000000", times("9", 60), "1" + times("0", 65535)} {
		wantLex(t, s, 0)
	}
	for _, behind := range []string{"x", "X", "_", "0", "#", ";", "\""} {
		wantLex(t, "a 9223372036854775808"+behind, 2)
	}
	wantLex(t, "9223372036854775807x", 19)
	wantLex(t, "9223372036854775807_", 19)
	wantLex(t, "9223372036854775807Z", 19)
	wantLex(t, "92233720368547758070", 0)
}

func TestTexts(t *testing.T) {
	wantTokens(t, `""`, textAt("", 0), endAt(2))
	wantTokens(t, `""""`, textAt("", 0), textAt("", 2), endAt(4))
	wantTokens(t, `a"b"c`, nameAt("a", 0), textAt("b", 1), nameAt("c", 4), endAt(5))
	wantTokens(t, `"\\"`, textAt(`\`, 0), endAt(4))
	wantTokens(t, `"\""`, textAt(`"`, 0), endAt(4))
	wantTokens(t, `"\\\""`, textAt(`\"`, 0), endAt(6))
	wantTokens(t, `"\\\\"`, textAt(`\\`, 0), endAt(6))
	wantTokens(t, `"\\""\""`, textAt(`\`, 0), textAt(`"`, 4), endAt(8))
	wantTokens(t, `"a // b"`, textAt("a // b", 0), endAt(8))
	wantTokens(t, "\" ~\"", textAt(" ~", 0), endAt(4))
	for b := range 256 {
		src := " \"ab" + oneByte(b) + "c\""
		switch {
		case b == '"':
			wantLex(t, src, 6)
		case b == '\\':
			wantLex(t, src, 4)
		case b == 10:
			wantLex(t, src, 1)
		case b < 32 || b > 126:
			wantLex(t, src, 4)
		default:
			wantTokens(t, src, textAt("ab"+oneByte(b)+"c", 1), endAt(7))
		}
	}
}

func TestBackslashes(t *testing.T) {
	for b := range 256 {
		src := "x\"ab\\" + oneByte(b) + "\""
		if b == '"' || b == '\\' {
			wantTokens(t, src, nameAt("x", 0), textAt("ab"+oneByte(b), 1), endAt(7))
			continue
		}
		wantLex(t, src, 4)
	}
	wantLex(t, `"\`, 1)
	wantLex(t, `"ab\`, 3)
	wantLex(t, `"\\\`, 3)
	wantLex(t, "\"\\\n\"", 1)
	wantLex(t, `"a\a\b"`, 2)
	wantLex(t, `"`+times("x", 70)+`\n"`, 71)
	wantLex(t, `a\b`, 1)
}

func TestTextsWithoutAnEnd(t *testing.T) {
	wantLex(t, `"`, 0)
	wantLex(t, `a "`, 2)
	wantLex(t, `"\"`, 0)
	wantLex(t, `"\\\"`, 0)
	wantLex(t, `"a" "b`, 4)
	wantLex(t, "\"a\nb\"", 0)
	wantLex(t, "\"a\n\x01", 0)
	wantLex(t, "\"a\x01\n", 2)
	wantLex(t, "\"a\r\n\"", 2)
	wantLex(t, "\"\x7f", 1)
	wantLex(t, "\"\xff", 1)
	wantLex(t, `"`+times("x", 65), 0)
	wantLex(t, "   \""+times("x", 65)+"\n", 3)
}

func TestLengthsOfTexts(t *testing.T) {
	for _, s := range []string{"x", " ", "~"} {
		for _, many := range []int{1, 63, 64} {
			wantTokens(t, `"`+times(s, many)+`"`, textAt(times(s, many), 0), endAt(2+many))
		}
		for _, many := range []int{65, 66, 128, 60000} {
			wantLex(t, ` "`+times(s, many)+`"`, 1)
			wantLex(t, ` "`+times(s, many)+`"#`, 1)
			wantLex(t, ` "`+times(s, many)+"\x1f\"", 2+many)
		}
	}
	for _, s := range []string{`\"`, `\\`} {
		wantTokens(t, `"`+times(s, 64)+`"`, textAt(times(s[1:], 64), 0), endAt(130))
		wantLex(t, `"`+times(s, 65)+`"`, 0)
		wantLex(t, `"`+times(s, 65)+`\`, 131)
	}
	wantTokens(t, `"`+times("x", 63)+`\""`, textAt(times("x", 63)+`"`, 0), endAt(67))
	wantLex(t, `"`+times("x", 64)+`\""`, 0)
}

func TestMarks(t *testing.T) {
	marks := allMarks()
	if len(marks) != 22 {
		t.Fatalf("%d marks", len(marks))
	}
	for _, a := range marks {
		wantTokens(t, a, markAt(a, 0), endAt(len(a)))
		wantTokens(t, "x"+a+"y", nameAt("x", 0), markAt(a, 1), nameAt("y", 1+len(a)), endAt(2+len(a)))
		for _, b := range marks {
			wantTokens(t, a+" "+b, markAt(a, 0), markAt(b, 1+len(a)), endAt(1+len(a)+len(b)))
			for _, c := range marks {
				wantAsModel(t, a+b+c)
			}
		}
	}
	wantTokens(t, "===", markAt("==", 0), markAt("=", 2), endAt(3))
	wantTokens(t, "!==", markAt("!=", 0), markAt("=", 2), endAt(3))
	wantTokens(t, "<==", markAt("<=", 0), markAt("=", 2), endAt(3))
	wantTokens(t, "=<=", markAt("=", 0), markAt("<=", 1), endAt(3))
	wantTokens(t, "=>>=", markAt("=", 0), markAt(">", 1), markAt(">=", 2), endAt(4))
	wantTokens(t, "!!=", markAt("!", 0), markAt("!=", 1), endAt(3))
	wantTokens(t, "= =", markAt("=", 0), markAt("=", 2), endAt(3))
	wantTokens(t, "&&&&", markAt("&&", 0), markAt("&&", 2), endAt(4))
	wantTokens(t, "||&&", markAt("||", 0), markAt("&&", 2), endAt(4))
	wantTokens(t, "--", markAt("-", 0), markAt("-", 1), endAt(2))
}

func TestHalfMarks(t *testing.T) {
	wantLex(t, "&", 0)
	wantLex(t, "|", 0)
	wantLex(t, "a &", 2)
	wantLex(t, "a |", 2)
	wantLex(t, "& &", 0)
	wantLex(t, "&|", 0)
	wantLex(t, "|&", 0)
	wantLex(t, "&&&", 2)
	wantLex(t, "|||", 2)
	wantLex(t, "&=", 0)
	wantLex(t, "=&", 1)
	wantLex(t, "=|", 1)
}

// TestEachByteWhereATokenBegins holds the bytes against the document's lists, not against the model.
func TestEachByteWhereATokenBegins(t *testing.T) {
	for b := range 256 {
		s, c := oneByte(b), byte(b)
		for _, ahead := range []string{"", " ", "x ", "7;", "\"\"", "//\n"} {
			at := len(ahead)
			tokens, _, _ := Cut([]byte(ahead))
			tokens = tokens[:len(tokens)-1]
			switch {
			case contains("\t\n\r ", c):
				wantTokens(t, ahead+s, append(tokens, endAt(at+1))...)
			case 'a' <= c && c <= 'z':
				wantTokens(t, ahead+s, append(tokens, nameAt(s, at), endAt(at+1))...)
			case '0' <= c && c <= '9':
				wantTokens(t, ahead+s, append(tokens, numAt(int64(c-'0'), at), endAt(at+1))...)
			case contains("{}();,.=!<>+-*/%", c):
				wantTokens(t, ahead+s, append(tokens, markAt(s, at), endAt(at+1))...)
			default:
				wantLex(t, ahead+s, at)
				wantLex(t, ahead+s+" ", at)
			}
		}
	}
}

func TestTheFirstFaultEndsIt(t *testing.T) {
	wantLex(t, "a # $", 2)
	wantLex(t, "01 #", 1)
	wantLex(t, "\"a\n #", 0)
	wantLex(t, "ok 9a "+times("x", 33), 4)
	wantLex(t, times("a ", 30000)+"\x00", 60000)
}

func TestLengthsOfSources(t *testing.T) {
	const most = 65536
	wantTokens(t, times(" ", most), endAt(most))
	wantTokens(t, times(" ", most-1)+"a", nameAt("a", most-1), endAt(most))
	wantTokens(t, "//"+times("\xff", most-2), endAt(most))
	wantLex(t, times(" ", most-1)+"#", most-1)
	wantLex(t, times(" ", most-1)+"\"", most-1)
	wantLex(t, times("x", most), 0)
	wantAsModel(t, times(";", most))
	wantAsModel(t, times("a ", most/2))
	wantAsModel(t, times(`""`, most/2))
	for _, s := range []string{" ", "#", ";", "a", "1", "\"", "/", "\x00"} {
		for _, many := range []int{most + 1, most + 2, 4 * most} {
			if l, err, at := Cut([]byte(times(s, many))); len(l) != 0 || err != api.ErrLong || at != most {
				t.Errorf("P8.1: %d times %q: %d tokens, %d, %d", many, s, len(l), err, at)
			}
		}
	}
}

// TestAllShortSources has every source of up to four bytes out of those that mean something to the cutter.
func TestAllShortSources(t *testing.T) {
	letters := "\n aZ_09\"\\/=!<>&|-;#\x1f\x7f"
	var grow func(src string)
	grow = func(src string) {
		wantAsModel(t, src)
		for i := 0; len(src) < 4 && i < len(letters); i++ {
			grow(src + letters[i:i+1])
		}
	}
	grow("")
}

func TestAnySources(t *testing.T) {
	r := rand.New(rand.NewSource(8))
	pieces := []string{" ", "\n", "\t", "\r", "//", "/", "a", "card", "zone", "Q", "_", "0", "7", "42", "9223372036854775807", "\"", "\"ab\"", "\\", "\\\"", "\\\\", "&&", "||", "=", "==", "<", "{", "}", ".", times("y", 30), times("z", 62)}
	good := 0
	for range 60000 {
		if wantAsModel(t, anyOf(r, r.Intn(12), pieces)) {
			good++
		}
	}
	if good < 5000 || good > 55000 {
		t.Errorf("%d of 60000 sources are without an error", good)
	}
	for range 20000 {
		b := make([]byte, r.Intn(20))
		r.Read(b)
		wantAsModel(t, string(b))
		for i := range b {
			b[i] = 31 + b[i]%97
		}
		wantAsModel(t, string(b))
		wantAsModel(t, "\""+string(b)+"\"")
	}
}

// TestWrittenTokensAreCutAsThemselves has the tokens with one blank, or more and remarks, between.
func TestWrittenTokensAreCutAsThemselves(t *testing.T) {
	r := rand.New(rand.NewSource(9))
	between := []string{" ", "\t", "\n", "\r", "//\n", " // \xff\" \n", "  "}
	for range 3000 {
		list := []api.Token{}
		for range r.Intn(20) {
			list = append(list, anyToken(r))
		}
		wantCutAs(t, list, func() string { return " " })
		wantCutAs(t, list, func() string { return "\n" + anyOf(r, r.Intn(4), between) })
	}
	wantCutAs(t, edgeTokens(), func() string { return " " })
	for _, a := range edgeTokens() {
		for _, b := range edgeTokens() {
			wantCutAs(t, listOf(a, b), func() string { return "\r" })
		}
	}
}

// wantCutAs lays the tokens' Texts one behind the other, and says that they are cut as they were, at their places.
func wantCutAs(t *testing.T, list []api.Token, blanks func() string) {
	t.Helper()
	src, want := "", []api.Token{}
	for _, x := range list {
		x.At = len(src)
		want = append(want, x)
		src += Text(x) + blanks()
	}
	want = append(want, endAt(len(src)))
	got, err, at := Cut([]byte(src))
	if !slices.Equal(got, want) || err != api.OK || at != 0 {
		t.Fatalf("P8.1, P8.3: %q is cut as %v, %d, %d, not as %v", src, got, err, at, want)
	}
}

// TestTokensStandWhereTheirTextsDo: at each place the source goes on with the Text, the places rise, and one TkEnd is the last.
func TestTokensStandWhereTheirTextsDo(t *testing.T) {
	r := rand.New(rand.NewSource(10))
	pieces := []string{" ", "\n", "//x\n", "a", "b9 ", "0 ", "42;", "\"a\\\"\"", "\"\\\\\"", "&&", "=", "==", "<", "/ ", "."}
	for range 5000 {
		src := anyOf(r, r.Intn(30), pieces)
		list, err, _ := Cut([]byte(src))
		if err != api.OK {
			continue
		}
		last := -1
		for i, x := range list {
			if !strings.HasPrefix(src[x.At:], Text(x)) || x.At <= last {
				t.Fatalf("P8.1: %q: the token %d is %v", src, i, x)
			}
			if (x.Kind == api.TkEnd) != (i == len(list)-1) || (Text(x) == "") != (x.Kind == api.TkEnd) {
				t.Fatalf("P8.1, P8.3: %q: the token %d is %v", src, i, x)
			}
			last = x.At
		}
	}
}

func TestCutHangsOnTheSourceAlone(t *testing.T) {
	first, _, _ := Cut([]byte("a 1"))
	Cut([]byte("#"))
	Cut([]byte(times("x", 70000)))
	Cut([]byte("\"open"))
	second, err, at := Cut([]byte("a 1"))
	if !slices.Equal(first, second) || err != api.OK || at != 0 {
		t.Errorf("P8.1: %v, and then %v, %d, %d (R6)", first, second, err, at)
	}
}
