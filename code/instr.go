package code

import "tableau/api"

// row is the opcode's, the empty one of a byte that is none.
func (t *table) row(op byte) row {
	if int(op) < len(t) {
		return t[op]
	}
	return row{}
}

// has tells whether the byte is an opcode: each one has a name.
func (r row) has() bool {
	return r.name != ""
}

// size is how many bytes an instruction has with its opcode, 0 where there is none.
func (r row) size() int {
	if !r.has() {
		return 0
	}
	size := 1
	for _, w := range r.operands {
		size += int(w)
	}
	return size
}

// count is how many operands there are.
func (r row) count() int {
	n := 0
	for _, w := range r.operands {
		if w != none {
			n++
		}
	}
	return n
}

// fits tells whether each number fits its operand, and is 0 where there is none.
func (r row) fits(n numbers) bool {
	for i, w := range r.operands {
		if n[i] < 0 || n[i] > w.most() {
			return false
		}
	}
	return true
}

func (t *table) read(b []byte, at int) (api.Instr, api.Errno) {
	if at < 0 || at >= len(b) {
		return api.Instr{}, api.ErrArg
	}
	r := t.row(b[at])
	if !r.has() {
		return api.Instr{}, api.ErrCode
	}
	if len(b)-at < r.size() {
		return api.Instr{}, api.ErrCut
	}
	n := r.read(b[at+1:])
	return api.Instr{At: at, Op: b[at], A: n[0], B: n[1], C: n[2]}, api.OK
}

// fault is what is not right of the instruction where so many bytes of code stand ahead of it.
func (t *table) fault(x api.Instr, ahead int) api.Errno {
	r := t.row(x.Op)
	switch {
	case !r.has():
		return api.ErrCode
	case x.At != ahead || !r.fits(numbers{x.A, x.B, x.C}):
		return api.ErrArg
	case ahead+r.size() > api.MaxCode:
		return api.ErrLimit
	}
	return api.OK
}

// write puts the bytes of the instruction, which is right, behind those that there are.
func (t *table) write(b []byte, x api.Instr) []byte {
	b = append(b, x.Op)
	n := numbers{x.A, x.B, x.C}
	for i, w := range t.row(x.Op).operands {
		if w == two {
			b = append(b, byte(n[i]>>8))
		}
		if w != none {
			b = append(b, byte(n[i]))
		}
	}
	return b
}
