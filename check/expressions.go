package check

import (
	"tableau/api"
	"tableau/kinds"
)

// What a sign takes beside values.
const (
	takesWord int8 = -1
	takesText int8 = -2
)

// sign: with its number.
type sign struct {
	kinds.Sign
	number int64
}

func byName(l []kinds.Sign) map[string]sign {
	m := make(map[string]sign, len(l))
	for i, s := range l {
		m[s.Name] = sign{s, int64(i)}
	}
	return m
}

func (c *checker) addItems() {
	tell := func(kind int8, ops ...int8) {
		for _, op := range ops {
			c.steps[op] = func(n *api.Node) error {
				n.Kind = kind
				return nil
			}
		}
	}
	tell(api.KInt, api.TNum)
	tell(api.KBool, api.TTrue, api.TFalse)
	tell(api.KNone, api.TWord, api.TText)
	c.steps[api.TName] = func(n *api.Node) error {
		v, ok := c.seen[n.Text]
		if !ok {
			return fault{api.ErrName, n.At}
		}
		n.N, n.Kind = int64(v.slot), c.slots[v.slot]
		return nil
	}
	c.steps[api.TField] = c.field(byName(kinds.Fields()))
	c.steps[api.TCall] = c.call(byName(kinds.Funcs()))
	c.steps[api.TDo] = c.call(byName(kinds.Effects()))
}

func (c *checker) field(known map[string]sign) step {
	return func(n *api.Node) error {
		kid, err := c.next()
		if err != nil {
			return err
		}
		s, ok := known[n.Text]
		if !ok {
			return fault{api.ErrCall, n.At}
		}
		if kid.Kind != s.Args[0] {
			return fault{api.ErrType, kid.At}
		}
		n.N, n.Kind = s.number, s.Tell
		return nil
	}
}

func (c *checker) call(known map[string]sign) step {
	return func(n *api.Node) error {
		s, ok := known[n.Text]
		if !ok {
			return fault{api.ErrCall, n.At}
		}
		if n.Kids != len(s.Args) {
			return fault{api.ErrArgs, n.At}
		}
		for _, takes := range s.Args {
			if err := c.argument(takes); err != nil {
				return err
			}
		}
		n.N, n.Kind = s.number, s.Tell
		return nil
	}
}

// argument goes through the argument that comes next. A word or a text has no kind, so it is none that is wanted of one.
func (c *checker) argument(takes int8) error {
	n := c.list[c.at]
	if takes == takesWord && n.Op != api.TWord || takes == takesText && n.Op != api.TText {
		return fault{api.ErrType, n.At}
	}
	if takes == takesWord || takes == takesText {
		return c.through(1)
	}
	return c.wanted(takes)
}

func (c *checker) addMarks() {
	operands := func(takes, tells int8, ops ...int8) {
		for _, op := range ops {
			c.steps[op] = func(n *api.Node) error {
				for range n.Kids {
					if err := c.wanted(takes); err != nil {
						return err
					}
				}
				n.Kind = tells
				return nil
			}
		}
	}
	operands(api.KBool, api.KBool, api.TNot, api.TOr, api.TAnd)
	operands(api.KInt, api.KInt, api.TNeg, api.TAdd, api.TSub, api.TMul, api.TDiv, api.TRem)
	operands(api.KInt, api.KBool, api.TLt, api.TLe, api.TGt, api.TGe)
	same := func(n *api.Node) error {
		left, err := c.next()
		if err != nil {
			return err
		}
		if left.Kind == api.KList {
			return fault{api.ErrType, left.At}
		}
		n.Kind = api.KBool
		return c.wanted(left.Kind)
	}
	c.steps[api.TEq] = same
	c.steps[api.TNe] = same
}
