package fold_test

import (
	"math/big"

	"tableau/api"
)

// outcome: what a constant expression comes to. Numbers have any length here; a bool is 0 or 1; of what is aborted n is nil.
type outcome struct {
	kind int8
	n    *big.Int
}

// accountOf goes through the list from its beginning; false, if it is no constant expression.
func accountOf(l []api.Node) (outcome, bool) {
	x, rest, ok := taken(l)
	return x, ok && len(rest) == 0
}

// taken is what the tree comes to with which the list begins, and what stands behind it.
func taken(l []api.Node) (outcome, []api.Node, bool) {
	if len(l) == 0 {
		return outcome{}, nil, false
	}
	n, rest := l[0], l[1:]
	if n.Kids < 0 || n.Kids > 2 || n.At < 0 || n.M != 0 || n.Text != "" {
		return outcome{}, nil, false
	}
	form := ""
	var kids []outcome
	for range n.Kids {
		kid, behind, ok := taken(rest)
		if !ok {
			return outcome{}, nil, false
		}
		kids, rest = append(kids, kid), behind
		form += string("?ib"[kid.kind])
	}
	if n.Op != api.TNum && n.Op != api.TCall && n.N != 0 {
		return outcome{}, nil, false
	}
	x := outcome{kind: kindOf(n, form)}
	if x.kind == api.KNone || x.kind != n.Kind {
		return outcome{}, nil, false
	}
	x.n = valueOf(n, kids)
	return x, rest, true
}

// The kinds of the operands of each operator, and the kind of the whole; those of == and != are both ints or both bools.
var operators = map[int8]string{
	api.TTrue: " b", api.TFalse: " b", api.TNot: "b b", api.TNeg: "i i", api.TOr: "bb b", api.TAnd: "bb b",
	api.TLt: "ii b", api.TLe: "ii b", api.TGt: "ii b", api.TGe: "ii b",
	api.TAdd: "ii i", api.TSub: "ii i", api.TMul: "ii i", api.TDiv: "ii i", api.TRem: "ii i",
}

// The same of abs, min and max.
var calls = map[int64]string{6: "i i", 7: "ii i", 8: "ii i"}

// kindOf is the kind of the node's expression, its operands being ints and bools as the form says; KNone, if there is none.
func kindOf(n api.Node, form string) int8 {
	f := operators[n.Op]
	switch {
	case n.Op == api.TNum && n.N >= 0:
		f = " i"
	case n.Op == api.TCall:
		f = calls[n.N]
	case (n.Op == api.TEq || n.Op == api.TNe) && (form == "ii" || form == "bb"):
		f = form + " b"
	}
	switch f {
	case form + " i":
		return api.KInt
	case form + " b":
		return api.KBool
	}
	return api.KNone
}

// valueOf is what the node comes to, nil where it is aborted.
func valueOf(n api.Node, kids []outcome) *big.Int {
	switch n.Op {
	case api.TNum:
		return big.NewInt(n.N)
	case api.TTrue:
		return big.NewInt(1)
	case api.TFalse:
		return big.NewInt(0)
	}
	a := kids[0].n
	if a == nil {
		return nil
	}
	switch {
	case n.Op == api.TNot:
		return bit(a.Sign() == 0)
	case n.Op == api.TNeg:
		return cut(new(big.Int).Neg(a))
	case n.Op == api.TCall && n.N == 6:
		return cut(new(big.Int).Abs(a))
	case n.Op == api.TOr && a.Sign() == 1, n.Op == api.TAnd && a.Sign() == 0:
		return a
	}
	b := kids[1].n
	if b == nil || n.Op == api.TOr || n.Op == api.TAnd {
		return b
	}
	return ofTwo(n, a, b)
}

func ofTwo(n api.Node, a, b *big.Int) *big.Int {
	sign := a.Cmp(b)
	switch n.Op {
	case api.TEq:
		return bit(sign == 0)
	case api.TNe:
		return bit(sign != 0)
	case api.TLt:
		return bit(sign < 0)
	case api.TLe:
		return bit(sign <= 0)
	case api.TGt:
		return bit(sign > 0)
	case api.TGe:
		return bit(sign >= 0)
	case api.TAdd:
		return cut(new(big.Int).Add(a, b))
	case api.TSub:
		return cut(new(big.Int).Sub(a, b))
	case api.TMul:
		return cut(new(big.Int).Mul(a, b))
	}
	if n.Op == api.TCall {
		if (sign < 0) == (n.N == 7) {
			return a
		}
		return b
	}
	if b.Sign() == 0 {
		return nil
	}
	// Quo and Rem of package big go towards nought, as the document says.
	if n.Op == api.TDiv {
		return cut(new(big.Int).Quo(a, b))
	}
	return new(big.Int).Rem(a, b)
}

func bit(b bool) *big.Int {
	if b {
		return big.NewInt(1)
	}
	return big.NewInt(0)
}

// cut is the number, cut to the ends of 64 bits.
func cut(n *big.Int) *big.Int {
	end := new(big.Int).Lsh(big.NewInt(1), 63)
	if n.Cmp(end) >= 0 {
		return end.Sub(end, big.NewInt(1))
	}
	if end.Neg(end); n.Cmp(end) < 0 {
		return end
	}
	return n
}

// writes tells whether the list is this value as nodes; what stands in the nodes beside Op, N and Kids has been asked for.
func (x outcome) writes(l []api.Node) bool {
	got := ""
	for _, n := range l {
		got += map[int8]string{api.TTrue: "true", api.TFalse: "false", api.TNeg: "-", api.TSub: "sub "}[n.Op]
		if n.Op == api.TNum {
			got += big.NewInt(n.N).String() + " "
		}
		if n.Op >= api.TNot && n.Op != api.TNeg && n.Op != api.TSub {
			got += "?"
		}
	}
	switch {
	case x.kind == api.KBool && x.n.Sign() == 1:
		return got == "true"
	case x.kind == api.KBool:
		return got == "false"
	case x.n.IsInt64() && x.n.Int64() == -1<<63:
		return got == "sub -9223372036854775807 1 "
	}
	return got == x.n.String()+" " // Text of a number below 0 begins with its sign, as its nodes do.
}
