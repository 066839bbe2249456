package parse

import "tableau/api"

// plant: a node with its kids at hand: a mark is read behind what becomes its first kid, so the list can't be laid while it is read.
type plant struct {
	api.Node
	kids []*plant
}

// here makes a node that stands where the next token does.
func (p *parser) here(op int8) *plant {
	return &plant{Node: api.Node{Op: op, At: p.next().At}}
}

// begin makes a node that stands where the next token does, and passes over that.
func (p *parser) begin(op int8) *plant {
	n := p.here(op)
	p.pass()
	return n
}

func (p *plant) add(kids ...*plant) {
	p.kids = append(p.kids, kids...)
}

// laid is the list with the plant's nodes behind it, each ahead of its kids.
func (p *plant) laid(list []api.Node) []api.Node {
	n := p.Node
	n.Kids = len(p.kids)
	list = append(list, n)
	for _, kid := range p.kids {
		list = kid.laid(list)
	}
	return list
}
