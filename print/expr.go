package print

import "tableau/api"

// expr writes the next expression, or argument, where any may stand as it is.
func (p *printer) expr() {
	p.operand(1)
}

// operand writes the next expression where that rank is wanted.
func (p *printer) operand(wanted int) {
	if p.ways[p.next().Op].rank >= wanted {
		p.write()
		return
	}
	p.say("(")
	p.write()
	p.say(")")
}

func (p *printer) between(n api.Node) {
	w := p.ways[n.Op]
	p.operand(w.left)
	p.say(w.word)
	p.operand(w.right)
}

func (p *printer) ahead(n api.Node) {
	w := p.ways[n.Op]
	p.say(w.word)
	p.operand(w.left)
}

func (p *printer) field(n api.Node) {
	w := p.ways[n.Op]
	p.operand(w.left)
	p.say(w.word, n.Text)
}

func (p *printer) call(n api.Node) {
	p.say(n.Text, "(")
	for i := range n.Kids {
		if i > 0 {
			p.say(", ")
		}
		p.expr()
	}
	p.say(")")
}

func (p *printer) number(n api.Node) {
	p.say(digits(n.N))
}

func (p *printer) name(n api.Node) {
	p.say(n.Text)
}

func (p *printer) zone(n api.Node) {
	zones := [...]string{"deck", "hand", "board", "grave"}
	p.say(zones[n.N])
}

func (p *printer) quote(n api.Node) {
	p.say(quoted(n.Text))
}
