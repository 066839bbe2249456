package mean

import "slices"

// value: what an expression tells, or an argument is; of one of the types below.
// check.Able has seen that each one is of the type that is asked for where it goes.
type value interface {
	same(v value) bool // is it the same as that one?
}

type (
	integer int64 // a number, or a zone's word
	truth   bool
	card    int
	player  int
	zone    int
	cards   []int // as they stood in a zone
	text    string
)

func (n integer) same(v value) bool { return v == value(n) }

func (b truth) same(v value) bool { return v == value(b) }

func (c card) same(v value) bool { return v == value(c) }

func (p player) same(v value) bool { return v == value(p) }

func (z zone) same(v value) bool { return v == value(z) }

func (t text) same(v value) bool { return v == value(t) }

// same goes through both lists: Go's own == would panic at them.
func (l cards) same(v value) bool {
	other, ok := v.(cards)
	return ok && slices.Equal(l, other)
}

// args: what an operator, a function, an effect is done with; none takes more than two.
type args [2]value
