package fold

import (
	"tableau/api"
	"tableau/sat"
)

// The functions whose value may be known ahead, and the one that may be known to end the run.
const (
	random   = 2
	absolute = 6
	lesser   = 7
	greater  = 8
)

// shape: how many kids a node of constant expressions has, of which kind they are (KNone: of whichever, but the same), and of which kind the node is.
type shape struct {
	kids   int
	of, is int8
}

// constant is what is known of a constant expression with this node and these kids; nil, if that is none.
func constant(n api.Node, kids []known) known {
	s, ok := shapeOf(n)
	if !ok || len(kids) != s.kids || n.Kind != s.is || n.M != 0 || n.Text != "" || n.At < 0 {
		return nil
	}
	of := s.of
	for _, k := range kids {
		if k == nil {
			return nil
		}
		if of == api.KNone {
			of = k.kind()
		}
		if k.kind() != of {
			return nil
		}
	}
	return reckoned(n, kids)
}

// shapeOf is the shape that the node asks for; false, if it stands in no constant expression.
func shapeOf(n api.Node) (shape, bool) {
	s := shape{2, api.KInt, api.KBool}
	switch n.Op {
	case api.TCall:
		return shapeOfCall(n.N)
	case api.TNum:
		return shape{0, api.KNone, api.KInt}, n.N >= 0
	case api.TTrue, api.TFalse:
		s = shape{0, api.KNone, api.KBool}
	case api.TNot:
		s = shape{1, api.KBool, api.KBool}
	case api.TNeg:
		s = shape{1, api.KInt, api.KInt}
	case api.TOr, api.TAnd:
		s.of = api.KBool
	case api.TEq, api.TNe:
		s.of = api.KNone
	case api.TLt, api.TLe, api.TGt, api.TGe:
	case api.TAdd, api.TSub, api.TMul, api.TDiv, api.TRem:
		s.is = api.KInt
	default:
		return shape{}, false
	}
	return s, n.N == 0
}

func shapeOfCall(function int64) (shape, bool) {
	switch function {
	case absolute:
		return shape{1, api.KInt, api.KInt}, true
	case lesser, greater:
		return shape{2, api.KInt, api.KInt}, true
	}
	return shape{}, false
}

// reckoned is what is known of the node by its kids, which are as its shape says.
func reckoned(n api.Node, kids []known) known {
	if len(kids) == 0 {
		if n.Op == api.TNum {
			return number(n.N)
		}
		return truth(n.Op == api.TTrue)
	}
	switch a := kids[0].(type) {
	case number:
		return ofNumber(n, a, kids[1:])
	case truth:
		return ofTruth(n.Op, a, kids[1:])
	}
	return ending(n.Kind)
}

// ofTruth is what is known where the first operand is a.
func ofTruth(op int8, a truth, more []known) known {
	switch {
	case op == api.TNot:
		return !a
	case op == api.TOr && bool(a), op == api.TAnd && !bool(a):
		return a
	case op == api.TOr, op == api.TAnd:
		return more[0]
	}
	b, ok := more[0].(truth)
	if !ok {
		return ending(api.KBool)
	}
	return truth((a == b) == (op == api.TEq))
}

// ofNumber is what is known where the first operand, or argument, is a.
func ofNumber(n api.Node, a number, more []known) known {
	if len(more) == 0 {
		if n.Op == api.TNeg {
			return sat.Neg(a)
		}
		return sat.Abs(a)
	}
	b, ok := more[0].(number)
	if !ok {
		return ending(n.Kind)
	}
	if n.Op != api.TCall {
		return ofNumbers(n.Op, a, b)
	}
	if n.N == lesser {
		return min(a, b)
	}
	return max(a, b)
}

// ofNumbers is what is known of an operator between two numbers.
func ofNumbers(op int8, a, b number) known {
	switch op {
	case api.TEq:
		return truth(a == b)
	case api.TNe:
		return truth(a != b)
	case api.TLt:
		return truth(a < b)
	case api.TLe:
		return truth(a <= b)
	case api.TGt:
		return truth(a > b)
	case api.TGe:
		return truth(a >= b)
	case api.TAdd:
		return sat.Add(a, b)
	case api.TSub:
		return sat.Sub(a, b)
	case api.TMul:
		return sat.Mul(a, b)
	case api.TDiv:
		return divided(sat.Div(a, b))
	}
	return divided(sat.Rem(a, b))
}

// divided is the number, if it was not by nought.
func divided(n number, ok bool) known {
	if !ok {
		return ending(api.KInt)
	}
	return n
}
