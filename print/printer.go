package print

import (
	"tableau/api"
	"tableau/tokens"
)

// printer: writes a tree that may be, node by node, as each stands ahead of its kids.
type printer struct {
	sheet
	rest []api.Node // the first one is what comes next
	ways map[int8]way
}

// way: how a kind of node is written.
type way struct {
	write func(p *printer, n api.Node) // the node, and behind it its kids, which come next
	word  string                       // its own word or mark, if it has but one
	rank  int                          // of what stands where expressions do
	left  int                          // the rank that is wanted of its first kid, where that is an operand
	right int                          // of its second one
}

// ways makes how each kind of node is written, by its Op.
func ways() map[int8]way {
	return map[int8]way{
		api.TPack:   {write: (*printer).pack},
		api.TCard:   {write: (*printer).card},
		api.TCost:   {write: (*printer).stat, word: "cost"},
		api.TPower:  {write: (*printer).stat, word: "power"},
		api.THealth: {write: (*printer).stat, word: "health"},
		api.TTag:    {write: (*printer).tag},
		api.TOn:     {write: (*printer).on},
		api.TBlock:  {write: (*printer).block},
		api.TLet:    {write: (*printer).let},
		api.TSet:    {write: (*printer).set},
		api.TIf:     {write: (*printer).ifs},
		api.TRepeat: {write: (*printer).repeat},
		api.TEach:   {write: (*printer).over, word: "each"},
		api.TChoose: {write: (*printer).over, word: "choose"},
		api.TStop:   {write: (*printer).alone, word: "stop;"},
		api.TAbort:  {write: (*printer).alone, word: "abort;"},
		api.TDo:     {write: (*printer).do},
		api.TOr:     {(*printer).between, " || ", 1, 1, 2},
		api.TAnd:    {(*printer).between, " && ", 2, 2, 3},
		api.TNot:    {(*printer).ahead, "!", 3, 3, 0},
		api.TEq:     {(*printer).between, " == ", 4, 5, 5},
		api.TNe:     {(*printer).between, " != ", 4, 5, 5},
		api.TLt:     {(*printer).between, " < ", 4, 5, 5},
		api.TLe:     {(*printer).between, " <= ", 4, 5, 5},
		api.TGt:     {(*printer).between, " > ", 4, 5, 5},
		api.TGe:     {(*printer).between, " >= ", 4, 5, 5},
		api.TAdd:    {(*printer).between, " + ", 5, 5, 6},
		api.TSub:    {(*printer).between, " - ", 5, 5, 6},
		api.TMul:    {(*printer).between, " * ", 6, 6, 7},
		api.TDiv:    {(*printer).between, " / ", 6, 6, 7},
		api.TRem:    {(*printer).between, " % ", 6, 6, 7},
		api.TNeg:    {(*printer).ahead, "-", 7, 7, 0},
		api.TField:  {(*printer).field, ".", 8, 8, 0},
		api.TCall:   {write: (*printer).call, rank: 8},
		api.TNum:    {write: (*printer).number, rank: 8},
		api.TTrue:   {write: (*printer).alone, word: "true", rank: 8},
		api.TFalse:  {write: (*printer).alone, word: "false", rank: 8},
		api.TName:   {write: (*printer).name, rank: 8},
		// No parentheses may stand about these two, so that they have the rank of which no place wants more.
		api.TWord: {write: (*printer).zone, rank: 8},
		api.TText: {write: (*printer).quote, rank: 8},
	}
}

func (p *printer) next() api.Node {
	return p.rest[0]
}

// write writes the next node and its kids.
func (p *printer) write() {
	n := p.next()
	p.rest = p.rest[1:]
	p.ways[n.Op].write(p, n)
}

// rows writes the nodes that come next, each in rows of its own.
func (p *printer) rows(many int) {
	for range many {
		p.write()
		p.endRow()
	}
}

func quoted(s string) string {
	return tokens.Text(api.Token{Kind: api.TkText, Text: s})
}

func digits(n int64) string {
	return tokens.Text(api.Token{Kind: api.TkNum, Num: n})
}

// alone writes a node that is its word and nothing else.
func (p *printer) alone(n api.Node) {
	p.say(p.ways[n.Op].word)
}
