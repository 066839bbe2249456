package mean

import "tableau/api"

// do does the statement, or the block.
func (r *runner) do(n *node) bool {
	switch n.Op {
	case api.TBlock:
		return r.block(n)
	case api.TLet, api.TSet:
		return r.assign(n)
	case api.TIf:
		return r.branch(n)
	case api.TRepeat:
		return r.repeat(n)
	case api.TEach:
		return r.each(n)
	case api.TChoose:
		return r.choose(n)
	case api.TStop:
		return r.stop()
	case api.TAbort:
		return r.abort(api.ErrAbort)
	}
	l, goesOn := r.args(n)
	return goesOn && r.effects[n.N].do(r, l)
}

func (r *runner) block(n *node) bool {
	for _, statement := range n.kids {
		if !r.do(statement) {
			return false
		}
	}
	return true
}

func (r *runner) assign(n *node) bool {
	v, goesOn := r.value(n.kids[0])
	if !goesOn {
		return false
	}
	r.slots[n.N] = v
	return true
}

func (r *runner) branch(n *node) bool {
	yes, goesOn := r.condition(n.kids[0])
	if !goesOn {
		return false
	}
	if yes {
		return r.do(n.kids[1])
	}
	return r.otherwise(n)
}

// otherwise does what stands behind else, if anything does.
func (r *runner) otherwise(n *node) bool {
	if len(n.kids) < 3 {
		return true
	}
	return r.do(n.kids[2])
}

func (r *runner) repeat(n *node) bool {
	for i := range n.N {
		r.slots[n.M] = integer(i)
		if !r.do(n.kids[0]) {
			return false
		}
	}
	return true
}

func (r *runner) each(n *node) bool {
	l, goesOn := r.list(n.kids[0])
	if !goesOn {
		return false
	}
	for _, c := range l {
		r.slots[n.N] = card(c)
		if !r.do(n.kids[1]) {
			return false
		}
	}
	return true
}

func (r *runner) choose(n *node) bool {
	l, goesOn := r.list(n.kids[0])
	if !goesOn {
		return false
	}
	if len(l) == 0 {
		return r.otherwise(n)
	}
	at, goesOn := r.ask(int64(len(l)))
	if !goesOn {
		return false
	}
	r.slots[n.N] = card(l[at])
	return r.do(n.kids[1])
}
