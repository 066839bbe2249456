package check

import (
	"maps"
	"slices"

	"tableau/api"
)

// step: what is done with a node when it is come to; behind it its kids are gone through, too.
type step func(n *api.Node) error

// variable: a name that is seen. Its kind is its slot's.
type variable struct {
	slot int
	let  bool
}

// checker: goes through a tree that may be, in the order of the text.
type checker struct {
	list    []api.Node // an own copy: each node becomes what is answered of it
	at      int        // the node that comes next
	steps   map[int8]step
	designs []api.Design // the last one is the card that is gone through

	// Of the ability that is gone through:
	seen  map[string]variable
	slots []int8
}

func newChecker(t []api.Node) *checker {
	c := &checker{list: slices.Clone(t), steps: map[int8]step{}}
	c.addCards()
	c.addStatements()
	c.addLoops()
	c.addItems()
	c.addMarks()
	return c
}

// whole is the designs of all cards.
func (c *checker) whole() ([]api.Design, error) {
	if _, err := c.next(); err != nil {
		return nil, err
	}
	return c.designs, nil
}

// next goes through the tree of the node that comes next.
func (c *checker) next() (*api.Node, error) {
	n := &c.list[c.at]
	c.at++
	return n, c.steps[n.Op](n)
}

// through goes through so many trees that come next.
func (c *checker) through(many int) error {
	for range many {
		if _, err := c.next(); err != nil {
			return err
		}
	}
	return nil
}

// wanted goes through the expression that comes next, which must be of that kind.
func (c *checker) wanted(kind int8) error {
	n, err := c.next()
	if err == nil && n.Kind != kind {
		return fault{api.ErrType, n.At}
	}
	return err
}

// declare gives the node's name a slot of the first kind, with slots of the other ones right behind it.
func (c *checker) declare(n *api.Node, let bool, kinds ...int8) (int64, error) {
	if _, ok := c.seen[n.Text]; ok {
		return 0, fault{api.ErrName, n.At}
	}
	slot := len(c.slots)
	if slot+len(kinds) > api.MaxSlots {
		return 0, fault{api.ErrSize, n.At}
	}
	c.seen[n.Text] = variable{slot, let}
	c.slots = append(c.slots, kinds...)
	return int64(slot), nil
}

// forget ends the names that were declared since there were so many slots: slots are given in the order of the text, none twice.
func (c *checker) forget(slots int) {
	maps.DeleteFunc(c.seen, func(_ string, v variable) bool {
		return v.slot >= slots
	})
}
