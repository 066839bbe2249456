package check

import (
	"slices"
	"strings"

	"tableau/api"
	"tableau/tree"
)

func (c *checker) addCards() {
	c.steps[api.TPack] = func(n *api.Node) error {
		if err := c.through(n.Kids); err != nil {
			return err
		}
		if !fitPools(c.list) {
			return fault{api.ErrSize, 0}
		}
		return nil
	}
	c.steps[api.TCard] = func(n *api.Node) error {
		if len(c.designs) == api.MaxKinds {
			return fault{api.ErrSize, n.At}
		}
		if slices.ContainsFunc(c.designs, func(d api.Design) bool { return d.Name == n.Text }) {
			return fault{api.ErrTwice, n.At}
		}
		c.designs = append(c.designs, api.Design{Name: strings.Clone(n.Text)})
		return c.through(n.Kids)
	}
	c.steps[api.TCost] = c.stat(func(d *api.Design) *int64 { return &d.Cost })
	c.steps[api.TPower] = c.stat(func(d *api.Design) *int64 { return &d.Power })
	c.steps[api.THealth] = c.stat(func(d *api.Design) *int64 { return &d.Health })
	c.steps[api.TTag] = func(n *api.Node) error {
		d := c.design()
		if slices.Contains(d.Tags, n.Text) {
			return fault{api.ErrTwice, n.At}
		}
		if len(d.Tags) == api.MaxTags {
			return fault{api.ErrSize, n.At}
		}
		d.Tags = append(d.Tags, strings.Clone(n.Text))
		return nil
	}
	c.steps[api.TOn] = c.on
}

func (c *checker) design() *api.Design {
	return &c.designs[len(c.designs)-1]
}

// stat makes the step of a line that says a number of the card. A number alone doesn't tell whether it was said: 0 may be, too.
func (c *checker) stat(of func(d *api.Design) *int64) step {
	last := 0 // the card that said it last, counted from 1 on
	return func(n *api.Node) error {
		if last == len(c.designs) {
			return fault{api.ErrTwice, n.At}
		}
		if n.N > api.MaxStat {
			return fault{api.ErrSize, n.At}
		}
		last = len(c.designs)
		*of(c.design()) = n.N
		return nil
	}
}

func (c *checker) on(n *api.Node) error {
	d := c.design()
	from, behind := c.at, tree.Behind(c.list, c.at-1)
	if len(d.Able) == api.MaxAble || behind-from > api.MaxWeight {
		return fault{api.ErrSize, n.At}
	}
	c.slots = []int8{api.KCard, api.KPlayer}
	c.seen = map[string]variable{"self": {slot: 0}, "me": {slot: 1}}
	when := n.Kids == 2
	if when {
		if err := c.wanted(api.KBool); err != nil {
			return err
		}
	}
	if err := c.through(1); err != nil {
		return err
	}
	d.Able = append(d.Able, api.Ability{On: int(n.N), Slots: c.slots, When: when, Tree: nameless(c.list[from:behind])})
	return nil
}

// nameless is the nodes in memory of their own, with no text but what is said as an argument.
func nameless(l []api.Node) []api.Node {
	l = slices.Clone(l)
	for i := range l {
		if l[i].Op == api.TText {
			l[i].Text = strings.Clone(l[i].Text)
		} else {
			l[i].Text = ""
		}
	}
	return l
}

// fitPools tells whether the ints and the texts of the pack, each counted once, have room in its pools.
func fitPools(l []api.Node) bool {
	ints, texts := map[int64]int{}, map[string]int{}
	for _, n := range l {
		switch n.Op {
		case api.TNum:
			ints[n.N]++
		case api.TRepeat:
			ints[n.N]++
			fallthrough
		case api.TEach:
			// Rounds are counted from 0 on, by 1.
			ints[0]++
			ints[1]++
		case api.TCard, api.TTag, api.TText:
			texts[n.Text]++
		}
	}
	return len(ints) <= api.MaxPool && len(texts) <= api.MaxPool
}
