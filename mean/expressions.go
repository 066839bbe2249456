package mean

import (
	"tableau/api"
	"tableau/sat"
)

// value is what the expression tells, or the argument is.
func (r *runner) value(n *node) (value, bool) {
	switch n.Op {
	case api.TNum, api.TWord:
		return integer(n.N), true
	case api.TTrue, api.TFalse:
		return truth(n.Op == api.TTrue), true
	case api.TName:
		return r.slots[n.N], true
	case api.TText:
		return text(n.Text), true
	case api.TOr, api.TAnd:
		return r.joined(n)
	}
	l, goesOn := r.args(n)
	if !goesOn {
		return nil, false
	}
	switch n.Op {
	case api.TField:
		return r.field(n.N, l[0]), true
	case api.TCall:
		return r.functions[n.N].tell(r, l)
	}
	return r.operated(n.Op, l)
}

// args is what the kids tell, from the left.
func (r *runner) args(n *node) (args, bool) {
	var l args
	for i, kid := range n.kids {
		v, goesOn := r.value(kid)
		if !goesOn {
			return args{}, false
		}
		l[i] = v
	}
	return l, true
}

// condition is the bool that the expression tells.
func (r *runner) condition(n *node) (yes, goesOn bool) {
	v, goesOn := r.value(n)
	if !goesOn {
		return false, false
	}
	return bool(v.(truth)), true
}

// list is the list that the expression tells.
func (r *runner) list(n *node) (cards, bool) {
	v, goesOn := r.value(n)
	if !goesOn {
		return nil, false
	}
	return v.(cards), true
}

// joined is what || and && tell: the right side is not come to where the left one says it.
func (r *runner) joined(n *node) (value, bool) {
	left, goesOn := r.value(n.kids[0])
	if !goesOn || left.(truth) == (n.Op == api.TOr) {
		return left, goesOn
	}
	return r.value(n.kids[1])
}

// operated is what all other operators tell.
func (r *runner) operated(op int8, l args) (value, bool) {
	switch op {
	case api.TNot:
		return !l[0].(truth), true
	case api.TNeg:
		return sat.Neg(l[0].(integer)), true
	case api.TEq:
		return truth(l[0].same(l[1])), true
	case api.TNe:
		return truth(!l[0].same(l[1])), true
	}
	return r.reckoned(op, l[0].(integer), l[1].(integer))
}

// reckoned is what the operators between two numbers tell.
func (r *runner) reckoned(op int8, a, b integer) (value, bool) {
	switch op {
	case api.TLt:
		return truth(a < b), true
	case api.TLe:
		return truth(a <= b), true
	case api.TGt:
		return truth(a > b), true
	case api.TGe:
		return truth(a >= b), true
	case api.TAdd:
		return sat.Add(a, b), true
	case api.TSub:
		return sat.Sub(a, b), true
	case api.TMul:
		return sat.Mul(a, b), true
	case api.TDiv:
		return r.divided(sat.Div(a, b))
	}
	return r.divided(sat.Rem(a, b))
}

// divided is the number, if it was not by nought.
func (r *runner) divided(n integer, ok bool) (value, bool) {
	if !ok {
		return nil, r.abort(api.ErrDivide)
	}
	return n, true
}
