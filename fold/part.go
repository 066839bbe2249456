package fold

import (
	"tableau/api"
	"tableau/tree"
)

// part: a tree that is folded, and what is known of it.
type part struct {
	api.Node
	known known
	kids  []part
}

// ends tells whether the run always ends within the part: nobody comes past it.
func (p part) ends() bool {
	_, yes := p.known.(ending)
	return yes
}

// empty is the block without its statements.
func (p part) empty() part {
	return part{Node: p.Node}
}

// listed is the list with the parts' nodes behind.
func listed(l []api.Node, parts ...part) []api.Node {
	for _, p := range parts {
		p.Kids = len(p.kids)
		l = listed(append(l, p.Node), p.kids...)
	}
	return l
}

// planted is the part that the nodes of a value are.
func planted(l []api.Node, k known) part {
	parts := upward(l, func(n api.Node, kids []part) part { return part{Node: n, kids: kids} })
	parts[0].known = k
	return parts[0]
}

// folded is what the node and its kids, which are folded, are made.
func folded(n api.Node, kids []part) part {
	switch n.Op {
	case api.TBlock:
		return block(n, kids)
	case api.TIf:
		return branch(n, kids)
	case api.TRepeat:
		return repeat(n, kids)
	case api.TEach:
		return part{Node: n, kids: kids}
	case api.TChoose:
		return either(n, kids)
	case api.TStop, api.TAbort:
		return part{Node: n, known: ending(n.Kind)}
	case api.TOr, api.TAnd:
		return joined(n, kids)
	}
	return worked(n, kids)
}

// joined is || and &&. Where one side is known, the whole is mostly one of both sides.
func joined(n api.Node, kids []part) part {
	left, right := kids[0], kids[1]
	goesOn := truth(n.Op == api.TAnd) // the left side that leaves it to the right one
	switch {
	case left.known == known(goesOn):
		return right
	case left.known != nil, right.known == known(goesOn):
		return left
	}
	return part{Node: n, kids: kids}
}

// worked is what all other nodes are made, of which each kid is come to.
func worked(n api.Node, kids []part) part {
	p := part{Node: n, kids: kids}
	var l []known
	for _, kid := range kids {
		l = append(l, kid.known)
	}
	if k := constant(n, l); k != nil {
		return written(p, k)
	}
	if fails(n, kids) {
		p.known = ending(n.Kind)
	}
	return p
}

// written is the part as its value's nodes; as it stands, if it has none, or they are its own already.
func written(p part, k known) part {
	l := nodes(k, p.At)
	if l == nil || tree.Same(l, listed(nil, p)) {
		p.known = k
		return p
	}
	return planted(l, k)
}

// fails tells whether a kid ends the run, or the node itself is known to.
func fails(n api.Node, kids []part) bool {
	for _, kid := range kids {
		if kid.ends() {
			return true
		}
	}
	switch {
	case n.Op == api.TDiv, n.Op == api.TRem:
		return kids[1].known == known(number(0))
	case n.Op == api.TCall && n.N == random:
		most, ok := kids[0].known.(number)
		return ok && most < 1
	}
	return false
}
