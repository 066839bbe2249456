package parse

import (
	"slices"

	"tableau/api"
)

func (p *parser) pack() *plant {
	n := p.here(api.TPack)
	for !p.isEnd() {
		n.add(p.card())
	}
	return n
}

func (p *parser) card() *plant {
	n := p.here(api.TCard)
	p.takeWord("card")
	n.Text = p.takeText()
	p.takeMark("{")
	for !p.isMark("}") {
		n.add(p.line())
	}
	p.takeMark("}")
	return n
}

func (p *parser) line() *plant {
	read := p.lines[p.name()]
	if read == nil {
		p.refuse(api.ErrParse)
	}
	return read()
}

func (p *parser) cost() *plant {
	return p.stat(api.TCost)
}

func (p *parser) power() *plant {
	return p.stat(api.TPower)
}

func (p *parser) health() *plant {
	return p.stat(api.THealth)
}

func (p *parser) stat(op int8) *plant {
	n := p.begin(op)
	n.N = p.takeNumber()
	p.takeMark(";")
	return n
}

func (p *parser) tag() *plant {
	n := p.begin(api.TTag)
	n.Text = p.takeText()
	p.takeMark(";")
	return n
}

func (p *parser) on() *plant {
	n := p.begin(api.TOn)
	event := slices.Index([]string{"play", "die", "hit", "turn", "draw"}, p.name())
	p.take(event >= 0)
	n.N = int64(event)
	if p.isWord("when") {
		p.pass()
		n.add(p.expr())
	}
	n.add(p.block())
	return n
}
