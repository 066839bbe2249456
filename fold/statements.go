package fold

import "tableau/api"

// woken is [the condition and] the block, what is known of the condition being made use of.
func woken(l []part) []part {
	if len(l) == 1 {
		return l
	}
	condition, does := l[0], l[1]
	switch k := condition.known.(type) {
	case truth:
		if !k {
			does = does.empty()
		}
		return []part{does}
	case ending:
		return []part{condition, does.empty()}
	}
	return l
}

// block is what the statements are made together: up to the one that nobody comes past.
func block(n api.Node, kids []part) part {
	p := part{Node: n}
	for _, kid := range kids {
		// What an if is known to do stands there as a block, and needs none of its own.
		if kid.Op == api.TBlock {
			p.kids = append(p.kids, kid.kids...)
		} else {
			p.kids = append(p.kids, kid)
		}
		if kid.ends() {
			p.known = kid.known
			break
		}
	}
	return p
}

// branch is an if; the block that is done, where the condition is known.
func branch(n api.Node, kids []part) part {
	condition, does := kids[0], kids[1]
	switch k := condition.known.(type) {
	case truth:
		if k {
			return does
		}
		return otherwise(kids)
	case ending:
		return part{n, ending(n.Kind), []part{condition, does.empty()}}
	}
	return either(n, kids)
}

// repeat is a repeat; nothing, if it has no round.
func repeat(n api.Node, kids []part) part {
	if n.N == 0 {
		return part{Node: api.Node{Op: api.TBlock, At: n.At}}
	}
	return part{n, kids[0].known, kids}
}

// otherwise is what stands behind else: an empty block, if nothing does.
func otherwise(kids []part) part {
	if len(kids) == 3 {
		return kids[2]
	}
	return part{Node: api.Node{Op: api.TBlock}}
}

// either is an if, or a choose, of which the one block may be done or the other.
func either(n api.Node, kids []part) part {
	p := part{Node: n, kids: kids}
	does, other := kids[1], otherwise(kids)
	if does.ends() && other.ends() {
		p.known = ending(n.Kind)
	}
	if other.Op == api.TBlock && len(other.kids) == 0 {
		p.kids = kids[:2]
	}
	return p
}
