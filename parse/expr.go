package parse

import (
	"slices"

	"tableau/api"
)

func (p *parser) expr() *plant {
	return p.row(p.and, api.TOr, api.TOr)
}

func (p *parser) and() *plant {
	return p.row(p.not, api.TAnd, api.TAnd)
}

func (p *parser) not() *plant {
	if p.isMark("!") {
		return p.ahead(api.TNot, p.not)
	}
	return p.rel()
}

func (p *parser) rel() *plant {
	n := p.sum()
	if p.isBetween(api.TEq, api.TGe) {
		n = p.above(n, p.sum)
	}
	return n
}

func (p *parser) sum() *plant {
	return p.row(p.term, api.TAdd, api.TSub)
}

func (p *parser) term() *plant {
	return p.row(p.sign, api.TMul, api.TRem)
}

func (p *parser) sign() *plant {
	if p.isMark("-") {
		return p.ahead(api.TNeg, p.sign)
	}
	return p.chain()
}

// row reads operands with the marks of these nodes between; the left ones belong together.
func (p *parser) row(operand func() *plant, first, last int8) *plant {
	around := p.open
	n := operand()
	for marks := 0; p.isBetween(first, last); marks++ {
		if marks > 0 {
			p.opens()
		}
		n = p.above(n, operand)
	}
	p.open = around
	return n
}

// isBetween tells whether the next token is the mark of one of these nodes.
func (p *parser) isBetween(first, last int8) bool {
	op := p.between()
	return first <= op && op <= last
}

// between is the node of the mark that is next, where that may stand between two; 0 else.
func (p *parser) between() int8 {
	if p.next().Kind != api.TkMark {
		return 0
	}
	switch p.next().Text {
	case "||":
		return api.TOr
	case "&&":
		return api.TAnd
	case "==":
		return api.TEq
	case "!=":
		return api.TNe
	case "<":
		return api.TLt
	case "<=":
		return api.TLe
	case ">":
		return api.TGt
	case ">=":
		return api.TGe
	case "+":
		return api.TAdd
	case "-":
		return api.TSub
	case "*":
		return api.TMul
	case "/":
		return api.TDiv
	case "%":
		return api.TRem
	}
	return 0
}

// above reads the mark that is next and what stands at its right.
func (p *parser) above(left *plant, right func() *plant) *plant {
	n := p.begin(p.between())
	n.add(left, right())
	return n
}

// ahead reads the mark that is next and its operand.
func (p *parser) ahead(op int8, operand func() *plant) *plant {
	n := p.here(op)
	p.opens()
	p.pass()
	n.add(operand())
	p.open--
	return n
}

func (p *parser) chain() *plant {
	around := p.open
	n := p.item()
	for points := 0; p.isMark("."); points++ {
		if points > 0 {
			p.opens()
		}
		p.takeMark(".")
		field := p.here(api.TField)
		field.Text = p.takeName()
		field.add(n)
		n = field
	}
	p.open = around
	return n
}

func (p *parser) item() *plant {
	switch {
	case p.next().Kind == api.TkNum:
		n := p.here(api.TNum)
		n.N = p.takeNumber()
		return n
	case p.isMark("("):
		return p.inParentheses()
	case p.isWord("true"):
		return p.begin(api.TTrue)
	case p.isWord("false"):
		return p.begin(api.TFalse)
	}
	return p.named()
}

func (p *parser) inParentheses() *plant {
	p.enter("(")
	n := p.expr()
	p.leave(")")
	return n
}

// named reads a name, or a function and its arguments.
func (p *parser) named() *plant {
	n := p.here(api.TName)
	n.Text = p.takeFree("self", "me")
	if isFree(n.Text) && p.isMark("(") {
		n.Op = api.TCall
		n.add(p.listed(p.argument)...)
	}
	return n
}

func (p *parser) argument() *plant {
	if p.next().Kind == api.TkText {
		n := p.here(api.TText)
		n.Text = p.takeText()
		return n
	}
	zone := slices.Index([]string{"deck", "hand", "board", "grave"}, p.name())
	if zone < 0 {
		return p.expr()
	}
	n := p.begin(api.TWord)
	n.N = int64(zone)
	return n
}
