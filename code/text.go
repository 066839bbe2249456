package code

import (
	"strconv"
	"strings"

	"tableau/api"
)

const (
	blank   = " "
	newline = "\n"
)

// Text is a row for each of the instructions; nothing where Put refuses them.
func Text(l []api.Instr) string {
	if _, err, _ := Put(l...); err != api.OK {
		return ""
	}
	t := opcodes()
	var s strings.Builder
	for _, x := range l {
		r := t.row(x.Op)
		n := numbers{x.A, x.B, x.C}
		s.WriteString(strconv.Itoa(x.At) + blank + r.name)
		for _, operand := range n[:r.count()] {
			s.WriteString(blank + strconv.Itoa(operand))
		}
		s.WriteString(newline)
	}
	return s.String()
}

// Parse is the instructions whose text s is; else the first fault, and the number of its row or of its instruction.
func Parse(s string) ([]api.Instr, api.Errno, int) {
	t := opcodes()
	ops := t.byName()
	var l []api.Instr
	for number := 0; s != ""; number++ {
		line, behind, whole := strings.Cut(s, newline)
		x, ok := t.instr(line, ops)
		if !whole || !ok {
			return nil, api.ErrLine, number
		}
		// Put refuses one of so many, whatever stands behind them: the rows there are looked at, and not kept.
		if len(l) <= api.MaxCode {
			l = append(l, x)
		}
		s = behind
	}
	if _, err, number := Put(l...); err != api.OK {
		return nil, err, number
	}
	return l, api.OK, 0
}

// byName is the opcodes by their names.
func (t *table) byName() map[string]byte {
	ops := make(map[string]byte, len(t))
	for op, r := range t {
		if r.has() {
			ops[r.name] = byte(op)
		}
	}
	return ops
}

// instr is the instruction that the line says, and whether it says one.
func (t *table) instr(line string, ops map[string]byte) (api.Instr, bool) {
	// No more words than there may be, however long the line is: a blank that is left in the last one makes it no number.
	words := strings.SplitN(line, blank, 2+len(numbers{}))
	if len(words) < 2 {
		return api.Instr{}, false
	}
	op, ok := ops[words[1]]
	if !ok || len(words) != 2+t.row(op).count() {
		return api.Instr{}, false
	}
	at, ok := natural(words[0])
	n, all := operands(words[2:])
	return api.Instr{At: at, Op: op, A: n[0], B: n[1], C: n[2]}, ok && all
}

// operands is what the words say, and whether each of them is a number.
func operands(words []string) (numbers, bool) {
	var n numbers
	for i, word := range words {
		var ok bool
		if n[i], ok = natural(word); !ok {
			return numbers{}, false
		}
	}
	return n, true
}

// natural is what the word says, and whether it is written in the one way in which a number is.
func natural(word string) (int, bool) {
	n, err := strconv.ParseInt(word, 10, 64)
	return int(n), err == nil && n >= 0 && strconv.FormatInt(n, 10) == word
}
