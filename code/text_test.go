package code_test

import (
	"fmt"
	"slices"
	"strings"
	"testing"

	"tableau/api"
	"tableau/code"
)

func wantText(t *testing.T, l []api.Instr, want string) {
	t.Helper()
	if s := code.Text(l); s != want {
		t.Errorf("P16.5: Text(%.200v) = %.200q, not %.200q", l, s, want)
	}
}

func wantParse(t *testing.T, s string, want []api.Instr, why api.Errno, which int) {
	t.Helper()
	if l, err, number := code.Parse(s); !slices.Equal(l, want) || err != why || number != which {
		t.Errorf("P16.6: Parse(%.200q) = %.200v, %d, %d, not %.200v, %d, %d", s, l, int(err), number, want, int(why), which)
	}
}

func TestTextOfTheExamples(t *testing.T) {
	wantText(t, []api.Instr{{Op: api.ILoad, A: 1}, {At: 2, Op: api.IAdd}, {At: 3, Op: api.IStop}}, "0 load 1\n2 add\n3 stop\n")
}

func TestTextOfNothing(t *testing.T) {
	wantText(t, nil, "")
	wantText(t, []api.Instr{}, "")
	wantText(t, make([]api.Instr, 0, 3), "")
	wantParse(t, "", nil, api.OK, 0)
}

func TestTextOfEachOpcode(t *testing.T) {
	for _, a := range accounts() {
		for _, n := range a.edges() {
			l := []api.Instr{{Op: api.IStop}, a.instr(1, n...)}
			wantText(t, l, "0 stop\n"+a.line(1, n...))
			wantParse(t, "0 stop\n"+a.line(1, n...), l, api.OK, 0)
		}
	}
}

func TestTextOfOneRefused(t *testing.T) {
	wantText(t, []api.Instr{{Op: api.IStop}, {At: 1, Op: 9}}, "")
	wantText(t, []api.Instr{{Op: api.IStop}, {Op: api.IStop}}, "")
	wantText(t, []api.Instr{{Op: api.IStop}, {At: 1, Op: api.IDo, A: 256}}, "")
}

func TestParseOfTheExamples(t *testing.T) {
	wantParse(t, "0 load 01\n", nil, api.ErrLine, 0)
	wantParse(t, "0 load 1", nil, api.ErrLine, 0)
	wantParse(t, "0 add\n2 add\n", nil, api.ErrArg, 1)
	wantParse(t, "0 load 256\n", nil, api.ErrArg, 0)
	wantParse(t, "0 jump\n", nil, api.ErrLine, 0)
	wantParse(t, "0 load -1\n", nil, api.ErrLine, 0)
	wantParse(t, "9223372036854775808 add\n", nil, api.ErrLine, 0)
	wantParse(t, "9223372036854775807 add\n", nil, api.ErrArg, 0)
	wantParse(t, "0 load 1\n2 add\n3 stop\n", []api.Instr{{Op: api.ILoad, A: 1}, {At: 2, Op: api.IAdd}, {At: 3, Op: api.IStop}}, api.OK, 0)
}

// wrongNumbers are words that are no numbers as they are written here.
func wrongNumbers() []string {
	return []string{
		"", "00", "01", "000", "007", "0000000000000000000001", "-0", "+0", "-1", "+1", "--1", "1.", "1.0", ".5", "1e3", "1_0", "1,0", "0x1", "0b1", "0o1", "a", "1a", "a1",
		"'1'", "\"1\"", "1\t", "\t1", "1\r", "\r1", "1\x00", "\x001", "1\v", "1\f", "\xa01", "\u0661", "\uff11", "²", "/", ":", "\xff", "1\u00a0", "\u20031",
		"9223372036854775808", "9223372036854775809", "9999999999999999999", "10000000000000000000", "18446744073709551615", "18446744073709551616", "18446744073709551617", "99999999999999999999",
		"100000000000000000000000000000000000000", "-9223372036854775808", strings.Repeat("9", 1000), strings.Repeat("0", 1000), strings.Repeat("0", 30) + "1",
	}
}

// TestParseOfWrongNumbers: at each place of a row where a number stands, of each opcode.
func TestParseOfWrongNumbers(t *testing.T) {
	for _, a := range accounts() {
		words := strings.Fields(a.line(0, slices.Repeat([]int{1}, len(a.wide))...))
		for i := range words {
			if i == 1 {
				continue
			}
			for _, wrong := range wrongNumbers() {
				row := slices.Clone(words)
				row[i] = wrong
				wantParse(t, strings.Join(row, " ")+"\n", nil, api.ErrLine, 0)
			}
		}
	}
}

// TestParseOfNumbersThatDoNotFit: whatever is from 0 to 2^63 - 1 is so made; Put says the rest.
func TestParseOfNumbersThatDoNotFit(t *testing.T) {
	for _, a := range accounts() {
		for i := range 1 + len(a.wide) {
			n := make([]int, 1+len(a.wide))
			end := 0
			if i > 0 {
				end = a.end(i - 1)
			}
			for _, much := range []int{end + 1, end + 10, 65536, 1 << 31, 1 << 32, 1 << 62, 1<<63 - 2, 1<<63 - 1} {
				n[i] = much
				wantParse(t, a.line(n[0], n[1:]...), nil, api.ErrArg, 0)
			}
		}
	}
}

// TestParseOfWrongRows: blanks, names, too few numbers and too many, other bytes.
func TestParseOfWrongRows(t *testing.T) {
	for _, row := range []string{
		"\n", " \n", "  \n", "0\n", "0 \n", "add\n", " add\n", "add 0\n", "\t\n", "\r\n", "\x00\n", "0 0\n", "0 0 add\n", "10\n", "0 10\n",
		"0  add\n", " 0 add\n", "0 add \n", "0 add  \n", "0\tadd\n", "0 add\t\n", "0 add\r\n", "0 add\x00\n", "0add\n", "0 add 0\n", "0 add add\n", "0 add;\n", "0 add 0 stop\n", "0 add\v\n", "0 add\u00a0\n", "0\u00a0add\n", "0 add\f\n", "0 add//\n",
		"0 Add\n", "0 ADD\n", "0 ad\n", "0 addd\n", "0 a\n", "0 \"add\"\n", "0 nothing\n", "0 nop\n", "0 pop\n", "0 \xff\n", "0 add\xff\n", "0 \u00e4dd\n", "0 9\n", "0 \x00\n", "0 card\n", "0 else\n",
		"0 load\n", "0 load \n", "0 load  1\n", "0 load 1 \n", "0 load 1  \n", "0 load 1 1\n", "0 load 1 0\n", "0 load\t1\n", "0 load1\n", "0 load 1\r\n", "0 load 1\t\n", "0 load,1\n", "0 load 1 1 1 1 1\n",
		"0 each\n", "0 each 1\n", "0 each 1 1\n", "0 each 1 1 1 1\n", "0 each 1 1 1 \n", "0 each 1  1 1\n", "0 each 1 1  1\n", "0 each 1 1 1 0\n", "0 each  1 1 1\n", "0 each 1 1 \n", "0 each 1 1 1 1 1 1 1\n", "0 each 1 1 1 1\n",
		"0 jump 1 2\n", "0 push\n", "0 push 1 0\n", "0 push 1 0 0\n", "0 stop 0\n", "0 stop 0 0 0\n",
		strings.Repeat(" ", 100000) + "\n", "0 add" + strings.Repeat(" 0", 100000) + "\n", "0 " + strings.Repeat("add", 50000) + "\n",
	} {
		wantParse(t, row, nil, api.ErrLine, 0)
		wantParse(t, "0 load 1\n"+row+"2 add\n", nil, api.ErrLine, 1)
		wantParse(t, "0 load 1\n2 add\n"+row, nil, api.ErrLine, 2)
		wantParse(t, row+row+"0", nil, api.ErrLine, 0)
	}
}

// TestParseWithoutALineFeed: each row has one at its end, the last one too; behind the last one stands nothing.
func TestParseWithoutALineFeed(t *testing.T) {
	for _, a := range accounts() {
		line := a.line(0, make([]int, len(a.wide))...)
		wantParse(t, line[:len(line)-1], nil, api.ErrLine, 0)
		wantParse(t, line+fmt.Sprint(a.size())+" stop", nil, api.ErrLine, 1)
		wantParse(t, line+"\n", nil, api.ErrLine, 1)
		wantParse(t, line+" ", nil, api.ErrLine, 1)
		wantParse(t, "\n"+line, nil, api.ErrLine, 0)
		wantParse(t, line[:len(line)-1]+"\r\n", nil, api.ErrLine, 0)
		wantParse(t, line[:len(line)-1]+"\r", nil, api.ErrLine, 0)
		wantParse(t, line+"0 add", nil, api.ErrLine, 1)
	}
}

// TestParseOfNoNames: a byte that is no opcode has no name that could be said.
func TestParseOfNoNames(t *testing.T) {
	for _, op := range others() {
		wantParse(t, "0 "+code.Name(op)+"\n", nil, api.ErrLine, 0)
		wantParse(t, fmt.Sprintf("0 %d\n", op), nil, api.ErrLine, 0)
	}
}

// TestParseLooksAtAllRowsFirst: a row that is not so made is told ahead of what Put would say, wherever it stands.
func TestParseLooksAtAllRowsFirst(t *testing.T) {
	wantParse(t, "0 load 256\n2 add\n3 Stop\n", nil, api.ErrLine, 2)
	wantParse(t, "0 Stop\n5 add\n", nil, api.ErrLine, 0)
	wantParse(t, "5 add\n5 add\n\n", nil, api.ErrLine, 2)
	wantParse(t, "0 add\n0 add\n0 add", nil, api.ErrLine, 2)
	wantParse(t, "0 add\n1 add 1\n3 load 256\n5 load\n", nil, api.ErrLine, 1)
	wantParse(t, "0 add\n1 add\n1 add\n1 add\n", nil, api.ErrArg, 2)
	wantParse(t, "0 add\n1 load 256\n3 load 256\n", nil, api.ErrArg, 1)
}

func TestParseAtTheLimit(t *testing.T) {
	for _, size := range []int{65534, 65535} {
		x := full(size)
		wantText(t, x.l, x.s)
		wantParse(t, x.s, x.l, api.OK, 0)
	}
	x := full(65535)
	many := len(x.l)
	wantParse(t, x.s+"65535 stop\n", nil, api.ErrLimit, many)
	wantParse(t, x.s+"65535 stop\n65536 stop", nil, api.ErrLine, many+1)
	wantParse(t, x.s+"65536 stop\n", nil, api.ErrArg, many)
	wantParse(t, x.s+"65535 stop 1\n", nil, api.ErrLine, many)
}

// TestParseOfManyRows: of more rows than there may be instructions.
func TestParseOfManyRows(t *testing.T) {
	var text strings.Builder
	var want []api.Instr
	ends := make([]int, 0, 200000)
	for at := range 200000 {
		fmt.Fprint(&text, at, " stop\n")
		ends = append(ends, text.Len())
		want = append(want, api.Instr{At: at, Op: api.IStop})
	}
	s := text.String()
	wantText(t, want, "")
	wantParse(t, s[:ends[65534]], want[:65535], api.OK, 0)
	wantText(t, want[:65535], s[:ends[65534]])
	for _, rows := range []int{65536, 65537, 65538, 131072, 200000} {
		wantParse(t, s[:ends[rows-1]], nil, api.ErrLimit, 65535)
		wantParse(t, s[:ends[rows-1]]+"0 stop\n", nil, api.ErrLimit, 65535)
		wantParse(t, s[:ends[rows-1]]+"0 Stop\n", nil, api.ErrLine, rows)
		wantParse(t, s[:ends[rows-1]-1], nil, api.ErrLine, rows-1)
	}
	wantParse(t, s[:ends[65534]]+"5 stop\n"+s[ends[65535]:], nil, api.ErrArg, 65535)
	wantParse(t, s[:ends[9]]+"0 stop\n"+s[ends[9]:], nil, api.ErrArg, 10)
}
