package print

import "tableau/api"

func (p *printer) pack(n api.Node) {
	p.rows(n.Kids)
}

func (p *printer) card(n api.Node) {
	p.say("card ", quoted(n.Text))
	p.block(n)
}

func (p *printer) stat(n api.Node) {
	p.say(p.ways[n.Op].word, " ", digits(n.N), ";")
}

func (p *printer) tag(n api.Node) {
	p.say("tag ", quoted(n.Text), ";")
}

func (p *printer) on(n api.Node) {
	events := [...]string{"play", "die", "hit", "turn", "draw"}
	p.say("on ", events[n.N])
	if n.Kids == 2 {
		p.say(" when ")
		p.expr()
	}
	p.write()
}

// block writes the rows of the node's kids between brackets.
func (p *printer) block(n api.Node) {
	p.open()
	p.rows(n.Kids)
	p.shut()
}
