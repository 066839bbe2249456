package parse

import (
	"slices"
	"strings"

	"tableau/api"
	"tableau/reserved"
)

// fault: why a list is refused, and where the token stands at which it is.
type fault struct {
	api.Errno
	at int
}

// parser: reads a list of tokens from the left. What reads a part begins at its first token, and ends behind its last one.
type parser struct {
	list       []api.Token
	at         int
	open       int
	lines      map[string]func() *plant // by their first words
	statements map[string]func() *plant
}

func newParser(l []api.Token) *parser {
	p := &parser{list: l}
	p.lines = map[string]func() *plant{
		"cost":   p.cost,
		"power":  p.power,
		"health": p.health,
		"tag":    p.tag,
		"on":     p.on,
	}
	p.statements = map[string]func() *plant{
		"let":    p.let,
		"if":     p.ifs,
		"repeat": p.repeat,
		"each":   p.each,
		"choose": p.choose,
		"stop":   p.stop,
		"abort":  p.abort,
		"self":   p.set,
		"me":     p.set,
		"hit":    p.do,
		"draw":   p.do,
	}
	return p
}

// next is the token that is still to be read; a TkEnd is the last one, as it is never passed over ahead of the whole's end.
func (p *parser) next() api.Token {
	return p.list[p.at]
}

func (p *parser) isEnd() bool {
	return p.next().Kind == api.TkEnd
}

func (p *parser) isMark(s string) bool {
	t := p.next()
	return t.Kind == api.TkMark && t.Text == s
}

func (p *parser) isWord(s string) bool {
	return p.name() == s
}

// name is the next token's name; nothing, where it is none.
func (p *parser) name() string {
	t := p.next()
	if t.Kind != api.TkName {
		return ""
	}
	return t.Text
}

// refuse ends all reading at the next token.
func (p *parser) refuse(why api.Errno) {
	panic(fault{why, p.next().At})
}

// pass goes on behind the next token.
func (p *parser) pass() api.Token {
	t := p.next()
	p.at++
	return t
}

// take passes over the next token, if it is one that may stand there.
func (p *parser) take(may bool) api.Token {
	if !may {
		p.refuse(api.ErrParse)
	}
	return p.pass()
}

func (p *parser) takeMark(s string) {
	p.take(p.isMark(s))
}

func (p *parser) takeWord(s string) {
	p.take(p.isWord(s))
}

func (p *parser) takeNumber() int64 {
	return p.take(p.next().Kind == api.TkNum).Num
}

func (p *parser) takeText() string {
	return strings.Clone(p.take(p.next().Kind == api.TkText).Text)
}

func (p *parser) takeName() string {
	return strings.Clone(p.take(p.name() != "").Text)
}

// takeFree takes a free name, or one of these words.
func (p *parser) takeFree(also ...string) string {
	return strings.Clone(p.take(isFree(p.name()) || slices.Contains(also, p.name())).Text)
}

func isFree(name string) bool {
	return name != "" && !reserved.Word(name)
}

// opens counts one more that is open from the next token on.
func (p *parser) opens() {
	if p.open == api.MaxDepth {
		p.refuse(api.ErrDepth)
	}
	p.open++
}

// enter takes the mark that opens a block, or parentheses.
func (p *parser) enter(mark string) {
	if p.isMark(mark) {
		p.opens()
	}
	p.takeMark(mark)
}

// leave takes the mark that closes them.
func (p *parser) leave(mark string) {
	p.takeMark(mark)
	p.open--
}
