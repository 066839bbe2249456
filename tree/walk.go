package tree

import "tableau/api"

// want: so many nodes, each with its kids behind it, that are still to come at such a place.
type want struct {
	place
	many int
	open int  // how many are open around them
	rest bool // they belong to the row of the node ahead of them
}

// walker: goes through a list, node by node.
type walker struct {
	table  map[int8]kind
	list   []api.Node
	at     int
	wanted []want // the last one is what comes next
	depth  int
}

// walk is the depth of the tree; or 0, the place of the first node that is none, and false.
func walk(t []api.Node) (depth, fault int, ok bool) {
	w := walker{table: kinds(), list: t}
	w.push(want{place: place{takes: packs}, many: 1})
walking:
	for len(w.wanted) > 0 {
		next := &w.wanted[len(w.wanted)-1]
		if next.many == 0 {
			w.wanted = w.wanted[:len(w.wanted)-1]
			continue walking
		}
		next.many--
		if !w.enter(*next) {
			return 0, w.at, false
		}
		w.at++
	}
	if w.at < len(t) {
		return 0, w.at, false
	}
	return w.depth, 0, true
}

func (w *walker) push(x want) {
	w.wanted = append(w.wanted, x)
}

// enter wants the kids of the node that comes next; false, if that is none for its place.
func (w *walker) enter(x want) bool {
	if w.at == len(w.list) {
		return false
	}
	n := w.list[w.at]
	k := w.table[n.Op]
	if k.is&x.takes == 0 || !k.fits(n) {
		return false
	}
	places, many, ok := k.places(n.Kids)
	if !ok {
		return false
	}
	open := x.open + w.more(k, x) + k.opens
	w.depth = max(w.depth, open)
	for i := len(places) - 1; i >= 0; i-- {
		w.push(want{place: places[i], many: many, open: open})
	}
	if w.goesOn(w.at) {
		// What a mark of the row, or a field of the chain, opens comes behind the first kid.
		first := &w.wanted[len(w.wanted)-1]
		first.open--
		first.rest = true
	}
	return true
}

// more is how many are open at the node, above those around it, where it stands at such a place.
func (w *walker) more(k kind, x want) int {
	n := 0
	if k.rank < x.rank {
		n++
	}
	if k.is&x.takes&elseIfs != 0 {
		n++
	}
	if !x.rest {
		n += w.marks()
	}
	return n
}

// marks is how often the row, or the chain, that begins at the node goes on.
func (w *walker) marks() int {
	end := w.at
	for w.goesOn(end) {
		end++
	}
	return end - w.at
}

// goesOn tells whether the row, or the chain, of the node at that place goes on with its first kid.
func (w *walker) goesOn(at int) bool {
	if at+1 >= len(w.list) {
		return false
	}
	k, first := w.table[w.list[at].Op], w.table[w.list[at+1].Op]
	return k.row && first.row && k.rank == first.rank
}
