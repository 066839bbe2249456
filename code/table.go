package code

import "tableau/api"

// wide: how many bytes an operand has.
type wide int

const (
	none wide = iota
	one
	two
)

// most is the greatest number that fits: 0 where there is no operand.
func (w wide) most() int {
	return 1<<(8*w) - 1
}

// numbers: the A, the B and the C of an instruction.
type numbers [3]int

// row: an opcode's name, its operands, and what reads their bytes, none of which is missing.
type row struct {
	name     string
	operands [3]wide
	read     func(behind []byte) numbers
}

// table: the rows of the opcodes, at their numbers; those of bytes that are none are empty.
type table [api.IDo + 1]row

func opcodes() table {
	return table{
		api.IPush:   double("push"),
		api.ITrue:   bare("true"),
		api.IFalse:  bare("false"),
		api.ILoad:   single("load"),
		api.IStore:  single("store"),
		api.IAdd:    bare("add"),
		api.ISub:    bare("sub"),
		api.IMul:    bare("mul"),
		api.IDiv:    bare("div"),
		api.IRem:    bare("rem"),
		api.INeg:    bare("neg"),
		api.IAbs:    bare("abs"),
		api.IMin:    bare("min"),
		api.IMax:    bare("max"),
		api.ILt:     bare("lt"),
		api.ILe:     bare("le"),
		api.IGt:     bare("gt"),
		api.IGe:     bare("ge"),
		api.INot:    bare("not"),
		api.IEq:     single("eq"),
		api.IJump:   double("jump"),
		api.IUnless: double("unless"),
		api.IEach:   triple("each"),
		api.IChoose: double("choose"),
		api.IStop:   bare("stop"),
		api.IAbort:  bare("abort"),
		api.INext:   bare("next"),
		api.IZone:   single("zone"),
		api.IRandom: bare("random"),
		api.ITop:    bare("top"),
		api.IHas:    bare("has"),
		api.IIs:     double("is"),
		api.IField:  single("field"),
		api.IDo:     single("do"),
	}
}

func bare(name string) row {
	return row{name, [3]wide{}, func([]byte) numbers { return numbers{} }}
}

func single(name string) row {
	return row{name, [3]wide{one}, func(behind []byte) numbers { return numbers{int(behind[0])} }}
}

func double(name string) row {
	return row{name, [3]wide{two}, func(behind []byte) numbers { return numbers{pair(behind)} }}
}

func triple(name string) row {
	return row{name, [3]wide{one, one, two}, func(behind []byte) numbers {
		return numbers{int(behind[0]), int(behind[1]), pair(behind[2:])}
	}}
}

// pair is the number of the first two bytes, the highest one first.
func pair(b []byte) int {
	return int(b[0])<<8 | int(b[1])
}
