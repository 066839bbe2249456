package code_test

import (
	"fmt"
	"math/rand"
	"regexp"
	"slices"
	"strings"
	"sync"

	"tableau/api"
)

// account: what the document says of an opcode: its name, and of how many bytes each of its operands is.
type account struct {
	op   byte
	name string
	wide []int
}

// accounts are the rows of the document's table, written down here once more.
var accounts = sync.OnceValue(func() []account {
	const table = `1 push 2|2 true|3 false|4 load 1|5 store 1|10 add|11 sub|12 mul|13 div|14 rem|15 neg|16 abs|17 min|18 max|19 lt|20 le
		21 gt|22 ge|23 not|24 eq 1|30 jump 2|31 unless 2|32 each 1 1 2|33 choose 2|34 stop|35 abort|40 next|41 zone 1|42 random|43 top|44 has|45 is 2|46 field 1|60 do 1`
	var l []account
	for _, line := range strings.FieldsFunc(table, func(r rune) bool { return r == '|' || r == '\n' }) {
		words := strings.Fields(line)
		a := account{name: words[1]}
		fmt.Sscan(words[0], &a.op)
		for _, word := range words[2:] {
			var n int
			fmt.Sscan(word, &n)
			a.wide = append(a.wide, n)
		}
		l = append(l, a)
	}
	return l
})

// accountOf is what the document says of the byte, and whether it is an opcode.
func accountOf(op byte) (account, bool) {
	for _, a := range accounts() {
		if a.op == op {
			return a, true
		}
	}
	return account{}, false
}

// others are the bytes that are no opcodes.
func others() []byte {
	var l []byte
	for b := range 256 {
		if _, ok := accountOf(byte(b)); !ok {
			l = append(l, byte(b))
		}
	}
	return l
}

func (a account) size() int {
	n := 1
	for _, w := range a.wide {
		n += w
	}
	return n
}

// end is the greatest number of the operand.
func (a account) end(i int) int {
	if a.wide[i] == 2 {
		return 65535
	}
	return 255
}

// instr is the instruction at the offset with these operands.
func (a account) instr(at int, n ...int) api.Instr {
	abc := append(slices.Clone(n), 0, 0, 0)
	return api.Instr{At: at, Op: a.op, A: abc[0], B: abc[1], C: abc[2]}
}

// bytes are those of an instruction with these operands.
func (a account) bytes(n ...int) []byte {
	b := []byte{a.op}
	for i, w := range a.wide {
		if w == 2 {
			b = append(b, byte(n[i]/256))
		}
		b = append(b, byte(n[i]%256))
	}
	return b
}

// line is the row of the instruction.
func (a account) line(at int, n ...int) string {
	s := fmt.Sprint(at, " ", a.name)
	for i := range a.wide {
		s += fmt.Sprint(" ", n[i])
	}
	return s + "\n"
}

// edges are rows of operands: each at 0, at 1, at its ends and on both sides of what fits a byte, with each of the others so.
func (a account) edges() [][]int {
	l := [][]int{nil}
	for i := range a.wide {
		var more [][]int
		for _, ahead := range l {
			for _, n := range []int{0, 1, 127, 128, 254, 255, 256, 257, 511, 512, 32767, 32768, 65280, 65534, 65535} {
				if n <= a.end(i) {
					more = append(more, append(slices.Clone(ahead), n))
				}
			}
		}
		l = more
	}
	return l
}

// anyOperands are operands by chance, at their ends now and then.
func (a account) anyOperands(r *rand.Rand) []int {
	var n []int
	for i := range a.wide {
		n = append(n, []int{0, 1, a.end(i), r.Intn(a.end(i) + 1), r.Intn(a.end(i) + 1)}[r.Intn(5)])
	}
	return n
}

// thing is code in its three forms.
type thing struct {
	b []byte
	l []api.Instr
	s string
}

func (x *thing) add(a account, n ...int) {
	at := len(x.b)
	x.l = append(x.l, a.instr(at, n...))
	x.s += a.line(at, n...)
	x.b = append(x.b, a.bytes(n...)...)
}

// anyThing is right code of so many instructions, by chance.
func anyThing(r *rand.Rand, many int) thing {
	var x thing
	l := accounts()
	for range many {
		a := l[r.Intn(len(l))]
		x.add(a, a.anyOperands(r)...)
	}
	return x
}

// modelRead reads by the document's words.
func modelRead(b []byte, at int) (api.Instr, api.Errno) {
	if at < 0 || at > len(b)-1 {
		return api.Instr{}, api.ErrArg
	}
	a, ok := accountOf(b[at])
	if !ok {
		return api.Instr{}, api.ErrCode
	}
	behind := b[at+1:]
	var n []int
	for _, w := range a.wide {
		if len(behind) < w {
			return api.Instr{}, api.ErrCut
		}
		sum := 0
		for _, digit := range behind[:w] {
			sum = sum*256 + int(digit)
		}
		n, behind = append(n, sum), behind[w:]
	}
	return a.instr(at, n...), api.OK
}

// modelAll reads one instruction behind the other.
func modelAll(b []byte) ([]api.Instr, api.Errno, int) {
	var l []api.Instr
	at := 0
	for at != len(b) {
		x, err := modelRead(b, at)
		if err != api.OK {
			return nil, err, at
		}
		a, _ := accountOf(x.Op)
		l, at = append(l, x), at+a.size()
	}
	return l, api.OK, 0
}

// modelPut looks at the instructions one by one, by the document's words.
func modelPut(l []api.Instr) ([]byte, api.Errno, int) {
	var b []byte
	for i, x := range l {
		a, ok := accountOf(x.Op)
		if !ok {
			return nil, api.ErrCode, i
		}
		abc := []int{x.A, x.B, x.C}
		right := x.At == len(b)
		for j, n := range abc {
			if j < len(a.wide) {
				right = right && 0 <= n && n <= a.end(j)
			} else {
				right = right && n == 0
			}
		}
		if !right {
			return nil, api.ErrArg, i
		}
		if b = append(b, a.bytes(abc...)...); len(b) > 65535 {
			return nil, api.ErrLimit, i
		}
	}
	return b, api.OK, 0
}

// modelParse takes rows apart by a pattern.
func modelParse(s string) ([]api.Instr, api.Errno, int) {
	row := regexp.MustCompile(`^((?:0|[1-9][0-9]*)) ([a-z]+)((?: (?:0|[1-9][0-9]*))*)$`)
	lines := strings.SplitAfter(s, "\n")
	if lines[len(lines)-1] == "" {
		lines = lines[:len(lines)-1]
	}
	var l []api.Instr
	for i, line := range lines {
		m := row.FindStringSubmatch(strings.TrimSuffix(line, "\n"))
		if m == nil || !strings.HasSuffix(line, "\n") {
			return nil, api.ErrLine, i
		}
		at := slices.IndexFunc(accounts(), func(a account) bool { return a.name == m[2] })
		words := append([]string{m[1]}, strings.Fields(m[3])...)
		if at < 0 || len(words) != 1+len(accounts()[at].wide) {
			return nil, api.ErrLine, i
		}
		var n []int
		for _, word := range words {
			if len(word) > 19 || len(word) == 19 && word > "9223372036854775807" {
				return nil, api.ErrLine, i
			}
			var number int
			fmt.Sscan(word, &number)
			n = append(n, number)
		}
		l = append(l, accounts()[at].instr(n[0], n[1:]...))
	}
	if _, err, i := modelPut(l); err != api.OK {
		return nil, err, i
	}
	return l, api.OK, 0
}
