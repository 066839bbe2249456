package emit

import (
	"tableau/api"
	"tableau/code"
)

// writer: writes trees, one behind the other, as instructions behind those that there are.
type writer struct {
	*table
	numbers
	rest    []api.Node // the trees that are still to be written
	code    []api.Instr
	size    int // how many bytes the code has
	patches []func()
}

// able is the plain code of an ability that may be, all that it wants having a number.
func (t *table) able(a api.Ability, n numbers) []byte {
	w := &writer{table: t, numbers: n, rest: a.Tree}
	if a.When {
		w.kid()
		w.fork(api.IUnless, w.kid, nil)
	} else {
		w.kid()
	}
	w.put(api.IStop)
	for _, patch := range w.patches {
		patch()
	}
	// It is right, and never too long: no node wants more than 25 bytes, and there are no more than MaxWeight of them.
	b, _, _ := code.Put(w.code...)
	return b
}

// put appends an instruction with these operands.
func (w *writer) put(op byte, operands ...int) {
	var l [3]int
	copy(l[:], operands)
	w.code = append(w.code, api.Instr{At: w.size, Op: op, A: l[0], B: l[1], C: l[2]})
	w.size += w.sizes[op]
}

// later appends an instruction whose offset isn't known yet: what puts it in is done when all code is there.
func (w *writer) later(patch func(x *api.Instr), op byte, operands ...int) {
	number := len(w.code)
	w.put(op, operands...)
	w.patches = append(w.patches, func() { patch(&w.code[number]) })
}

func (w *writer) push(n int64) {
	w.put(api.IPush, w.ints[n])
}

// take is the next node, which is taken as written.
func (w *writer) take() api.Node {
	n := w.rest[0]
	w.rest = w.rest[1:]
	return n
}

// kid writes the next tree.
func (w *writer) kid() {
	n := w.take()
	w.nodes[n.Op].write(w, n)
}

// kids writes all of the node's.
func (w *writer) kids(n api.Node) {
	for range n.Kids {
		w.kid()
	}
}

// fork appends an instruction that goes on or jumps away: on writes what stands behind it, away, if it isn't nil, what is come to by the jump alone.
func (w *writer) fork(op byte, on, away func()) {
	var there, end int
	w.later(func(x *api.Instr) { x.A = there }, op)
	on()
	if away == nil {
		there = w.size
		return
	}
	w.later(func(x *api.Instr) { x.A = end }, api.IJump)
	there = w.size
	away()
	end = w.size
}
