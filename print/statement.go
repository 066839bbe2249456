package print

import "tableau/api"

func (p *printer) let(n api.Node) {
	p.say("let ")
	p.set(n)
}

func (p *printer) set(n api.Node) {
	p.say(n.Text, " = ")
	p.expr()
	p.say(";")
}

func (p *printer) ifs(n api.Node) {
	p.say("if ")
	p.expr()
	p.write()
	p.otherwise(n)
}

func (p *printer) repeat(n api.Node) {
	p.say("repeat ", digits(n.N), " as ", n.Text)
	p.write()
}

// over writes what goes on with cards of a list.
func (p *printer) over(n api.Node) {
	p.say(p.ways[n.Op].word, " ", n.Text, " in ")
	p.expr()
	p.write()
	p.otherwise(n)
}

// otherwise goes on in the row of the block ahead with the node's third kid, if it has one.
func (p *printer) otherwise(n api.Node) {
	if n.Kids < 3 {
		return
	}
	p.say(" else")
	if p.next().Op == api.TIf {
		p.say(" ")
	}
	p.write()
}

func (p *printer) do(n api.Node) {
	p.call(n)
	p.say(";")
}
