package fold

import (
	"slices"

	"tableau/api"
)

type (
	list  []api.Node
	place int
)

// walk goes through a list from its end: what a node holds comes ahead of the node.
type walk struct {
	list
	place // so many nodes are still to come
}

// next is the node that comes next; false, if all have come.
func (w *walk) next() (api.Node, bool) {
	if w.place == 0 {
		return api.Node{}, false
	}
	w.place--
	return w.list[w.place], true
}

// upward makes one thing of each node and of what it made of the node's kids. What comes of the list's trees is answered, from the left; nothing, if a node asks for kids that are not there.
// It calls nothing within itself: a list may be nested deeper than calls can be.
func upward[T any](t []api.Node, of func(n api.Node, kids []T) T) []T {
	w := walk{t, place(len(t))}
	var made []T // the leftmost tree's is the last one
	for n, more := w.next(); more; n, more = w.next() {
		if n.Kids < 0 || n.Kids > len(made) {
			return nil
		}
		rest := len(made) - n.Kids
		kids := slices.Clone(made[rest:])
		slices.Reverse(kids)
		made = append(made[:rest], of(n, kids))
	}
	slices.Reverse(made)
	return made
}
