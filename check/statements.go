package check

import "tableau/api"

func (c *checker) addStatements() {
	nothing := func(*api.Node) error { return nil }
	c.steps[api.TStop] = nothing
	c.steps[api.TAbort] = nothing
	c.steps[api.TBlock] = func(n *api.Node) error {
		around := len(c.slots)
		if err := c.through(n.Kids); err != nil {
			return err
		}
		c.forget(around)
		return nil
	}
	c.steps[api.TLet] = func(n *api.Node) error {
		kid, err := c.next()
		if err != nil {
			return err
		}
		n.N, err = c.declare(n, true, kid.Kind)
		return err
	}
	c.steps[api.TSet] = func(n *api.Node) error {
		v, ok := c.seen[n.Text]
		if !ok {
			return fault{api.ErrName, n.At}
		}
		// self and me are always seen, and no let declared them.
		if !v.let {
			return fault{api.ErrSet, n.At}
		}
		n.N = int64(v.slot)
		return c.wanted(c.slots[v.slot])
	}
	c.steps[api.TIf] = func(n *api.Node) error {
		if err := c.wanted(api.KBool); err != nil {
			return err
		}
		return c.through(n.Kids - 1)
	}
}

func (c *checker) addLoops() {
	c.steps[api.TRepeat] = func(n *api.Node) error {
		if n.N > api.MaxLoop {
			return fault{api.ErrSize, n.At}
		}
		slot, err := c.within(n, api.KInt)
		n.M = slot
		return err
	}
	over := func(kinds ...int8) step {
		return func(n *api.Node) error {
			if err := c.wanted(api.KList); err != nil {
				return err
			}
			slot, err := c.within(n, kinds...)
			if err != nil {
				return err
			}
			n.N = slot
			return c.through(n.Kids - 2)
		}
	}
	c.steps[api.TChoose] = over(api.KCard)
	each := over(api.KCard, api.KList, api.KInt)
	c.steps[api.TEach] = func(n *api.Node) error {
		err := each(n)
		n.M = n.N + 1
		return err
	}
}

// within declares the node's name for the block that comes next alone.
func (c *checker) within(n *api.Node, kinds ...int8) (int64, error) {
	slot, err := c.declare(n, false, kinds...)
	if err != nil {
		return 0, err
	}
	if err := c.through(1); err != nil {
		return 0, err
	}
	c.forget(int(slot))
	return slot, nil
}
