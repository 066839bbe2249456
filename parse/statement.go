package parse

import "tableau/api"

func (p *parser) block() *plant {
	n := p.here(api.TBlock)
	p.enter("{")
	for !p.isMark("}") {
		n.add(p.statement())
	}
	p.leave("}")
	return n
}

func (p *parser) statement() *plant {
	read := p.statements[p.name()]
	if read == nil {
		read = p.free()
	}
	return read()
}

// free is what reads the statement that begins with a free name: what stands behind that tells which one it is.
func (p *parser) free() func() *plant {
	if !isFree(p.name()) {
		p.refuse(api.ErrParse)
	}
	behind := p.list[p.at+1]
	if behind.Kind == api.TkMark && behind.Text == "=" {
		return p.set
	}
	return p.do
}

func (p *parser) let() *plant {
	n := p.begin(api.TLet)
	n.Text = p.takeFree()
	p.assigned(n)
	return n
}

func (p *parser) set() *plant {
	n := p.here(api.TSet)
	n.Text = p.takeFree("self", "me")
	p.assigned(n)
	return n
}

func (p *parser) assigned(n *plant) {
	p.takeMark("=")
	n.add(p.expr())
	p.takeMark(";")
}

func (p *parser) ifs() *plant {
	n := p.begin(api.TIf)
	n.add(p.expr(), p.block())
	if p.isWord("else") {
		p.pass()
		n.add(p.behindElse())
	}
	return n
}

func (p *parser) behindElse() *plant {
	if !p.isWord("if") {
		return p.block()
	}
	p.opens()
	n := p.ifs()
	p.open--
	return n
}

func (p *parser) repeat() *plant {
	n := p.begin(api.TRepeat)
	n.N = p.takeNumber()
	p.takeWord("as")
	n.Text = p.takeFree()
	n.add(p.block())
	return n
}

func (p *parser) each() *plant {
	return p.overList(api.TEach)
}

func (p *parser) choose() *plant {
	n := p.overList(api.TChoose)
	if p.isWord("else") {
		p.pass()
		n.add(p.block())
	}
	return n
}

func (p *parser) overList(op int8) *plant {
	n := p.begin(op)
	n.Text = p.takeFree()
	p.takeWord("in")
	n.add(p.expr(), p.block())
	return n
}

func (p *parser) stop() *plant {
	return p.alone(api.TStop)
}

func (p *parser) abort() *plant {
	return p.alone(api.TAbort)
}

func (p *parser) alone(op int8) *plant {
	n := p.begin(op)
	p.takeMark(";")
	return n
}

func (p *parser) do() *plant {
	n := p.here(api.TDo)
	n.Text = p.takeFree("hit", "draw")
	n.add(p.listed(p.expr)...)
	p.takeMark(";")
	return n
}

// listed reads what stands in parentheses, with commas between.
func (p *parser) listed(one func() *plant) []*plant {
	var list []*plant
	p.enter("(")
	if !p.isMark(")") {
		list = append(list, one())
		for p.isMark(",") {
			p.pass()
			list = append(list, one())
		}
	}
	p.leave(")")
	return list
}
