package tree

import (
	"math"

	"tableau/api"
)

// group: what nodes are to the places of a tree. A kind of node may be of several, a place may take several.
type group int

const (
	packs group = 1 << iota
	cards
	lines
	blocks
	statements
	elseIfs
	expressions
	words // those that stand as arguments alone
)

// place: what a kid's place asks for, and the rank that it wants; 0, where nothing stands in parentheses.
type place struct {
	takes group
	rank  int
}

// kind: what a node of an Op is like.
type kind struct {
	is    group
	rank  int                 // of an expression
	row   bool                // a row, or a chain: a first kid of the same rank that is one, too, belongs to it
	opens int                 // how many more are open within
	most  int64               // the greatest N
	text  func(s string) bool // nil, where there is none
	each  group               // what each kid is, where there may be any number of them
	kids  [][]place           // else: what the kids are, in each way that may be
}

// kinds makes what each kind of node asks for, by its Op.
func kinds() map[int8]kind {
	m := map[int8]kind{
		api.TPack:   {is: packs, each: cards},
		api.TCard:   {is: cards, text: isText, each: lines},
		api.TCost:   {is: lines, most: math.MaxInt64},
		api.TPower:  {is: lines, most: math.MaxInt64},
		api.THealth: {is: lines, most: math.MaxInt64},
		api.TTag:    {is: lines, text: isText},
		api.TOn:     {is: lines, most: api.OnDraw, kids: [][]place{{{takes: blocks}}, {{takes: expressions}, {takes: blocks}}}},
	}
	addStatements(m)
	addItems(m)
	addMarks(m)
	return m
}

func addStatements(m map[int8]kind) {
	one := []place{{takes: expressions}}
	two := []place{{takes: expressions}, {takes: blocks}}
	three := func(last group) []place {
		return []place{{takes: expressions}, {takes: blocks}, {takes: last}}
	}
	m[api.TBlock] = kind{is: blocks, opens: 1, each: statements}
	m[api.TLet] = kind{is: statements, text: freeOr(), kids: [][]place{one}}
	m[api.TSet] = kind{is: statements, text: freeOr("self", "me"), kids: [][]place{one}}
	m[api.TIf] = kind{is: statements | elseIfs, kids: [][]place{two, three(blocks | elseIfs)}}
	m[api.TRepeat] = kind{is: statements, most: math.MaxInt64, text: freeOr(), kids: [][]place{{{takes: blocks}}}}
	m[api.TEach] = kind{is: statements, text: freeOr(), kids: [][]place{two}}
	m[api.TChoose] = kind{is: statements, text: freeOr(), kids: [][]place{two, three(blocks)}}
	m[api.TStop] = kind{is: statements}
	m[api.TAbort] = kind{is: statements}
	m[api.TDo] = kind{is: statements, opens: 1, text: freeOr("hit", "draw"), each: expressions}
}

func addItems(m map[int8]kind) {
	m[api.TNum] = kind{is: expressions, rank: 8, most: math.MaxInt64}
	m[api.TTrue] = kind{is: expressions, rank: 8}
	m[api.TFalse] = kind{is: expressions, rank: 8}
	m[api.TName] = kind{is: expressions, rank: 8, text: freeOr("self", "me")}
	m[api.TField] = kind{is: expressions, rank: 8, row: true, text: isName, kids: [][]place{{{expressions, 8}}}}
	m[api.TCall] = kind{is: expressions, rank: 8, opens: 1, text: freeOr(), each: expressions | words}
	m[api.TWord] = kind{is: words, most: api.Grave}
	m[api.TText] = kind{is: words, text: isText}
}

func addMarks(m map[int8]kind) {
	ahead := func(rank int, op int8) {
		m[op] = kind{is: expressions, rank: rank, opens: 1, kids: [][]place{{{expressions, rank}}}}
	}
	between := func(rank, left, right int, ops ...int8) {
		for _, op := range ops {
			m[op] = kind{is: expressions, rank: rank, row: left == rank, kids: [][]place{{{expressions, left}, {expressions, right}}}}
		}
	}
	between(1, 1, 2, api.TOr)
	between(2, 2, 3, api.TAnd)
	ahead(3, api.TNot)
	between(4, 5, 5, api.TEq, api.TNe, api.TLt, api.TLe, api.TGt, api.TGe)
	between(5, 5, 6, api.TAdd, api.TSub)
	between(6, 6, 7, api.TMul, api.TDiv, api.TRem)
	ahead(7, api.TNeg)
}

// fits tells whether the node's own fields, but Kids, are as its kind says.
func (k kind) fits(n api.Node) bool {
	if n.Kind != 0 || n.M != 0 || n.At < 0 || n.N < 0 || n.N > k.most {
		return false
	}
	if k.text == nil {
		return n.Text == ""
	}
	return k.text(n.Text)
}

// places is what a node with that number of kids asks for, and how many of them at each place; false, if it may not have that number.
func (k kind) places(kids int) (list []place, many int, ok bool) {
	if k.each != 0 {
		return []place{{takes: k.each}}, kids, kids >= 0
	}
	for _, way := range k.kids {
		if len(way) == kids {
			return way, 1, true
		}
	}
	return nil, 0, kids == 0 && k.kids == nil
}
