package emit_test

import (
	"bytes"
	"fmt"
	"slices"
	"strings"
	"testing"

	"tableau/api"
	"tableau/check"
	"tableau/code"
	"tableau/emit"
	"tableau/parse"
	"tableau/tokens"
	"tableau/tree"
)

const (
	most  = 1<<63 - 1
	least = -1 << 63
)

// designs is what the source's cards are checked as.
func designs(t testing.TB, src string) []api.Design {
	t.Helper()
	l, why, at := tokens.Cut([]byte(src))
	if why != api.OK {
		t.Fatalf("%s: not cut, %d at %d", src, int(why), at)
	}
	n, why, at := parse.Pack(l)
	if why != api.OK {
		t.Fatalf("%s: not parsed, %d at %d", src, int(why), at)
	}
	d, why, at := check.Pack(n)
	if why != api.OK {
		t.Fatalf("%s: not checked, %d at %d", src, int(why), at)
	}
	return d
}

// able is the ability of a card with this line.
func able(t testing.TB, line string) api.Ability {
	t.Helper()
	return designs(t, `card "a" { `+line+` }`)[0].Able[0]
}

// op is a node and its kids.
func op(n api.Node, kids ...[]api.Node) []api.Node {
	n.Kids = len(kids)
	return append([]api.Node{n}, slices.Concat(kids...)...)
}

func whole(n int64) []api.Node {
	return op(api.Node{Op: api.TNum, Kind: api.KInt, N: n})
}

func truth() []api.Node {
	return op(api.Node{Op: api.TTrue, Kind: api.KBool})
}

func block(statements ...[]api.Node) []api.Node {
	return op(api.Node{Op: api.TBlock}, statements...)
}

// gains is the statement by which me gains so many.
func gains(e []api.Node) []api.Node {
	return op(api.Node{Op: api.TDo, N: 5}, op(api.Node{Op: api.TName, Kind: api.KPlayer, N: 1}), e)
}

// asks is the condition whether the card has the tag.
func asks(tag string) []api.Node {
	self, text := op(api.Node{Op: api.TName, Kind: api.KCard}), op(api.Node{Op: api.TText, Text: tag})
	return op(api.Node{Op: api.TCall, Kind: api.KBool, N: 5}, self, text)
}

// does is an ability without a condition and variables.
func does(statements ...[]api.Node) api.Ability {
	return api.Ability{Slots: []int8{api.KCard, api.KPlayer}, Tree: block(statements...)}
}

// when is an ability with that condition and an empty block.
func when(e []api.Node) api.Ability {
	return api.Ability{Slots: []int8{api.KCard, api.KPlayer}, When: true, Tree: append(e, block()...)}
}

// The document's table of nodes, row by row: $0 is the first kid's code, * that of all kids.
var plain = map[int8]string{
	api.TBlock:  "*",
	api.TNum:    "push [N]",
	api.TTrue:   "true",
	api.TFalse:  "false",
	api.TName:   "load N",
	api.TNot:    "$0, not",
	api.TNeg:    "$0, neg",
	api.TAdd:    "$0, $1, add",
	api.TSub:    "$0, $1, sub",
	api.TMul:    "$0, $1, mul",
	api.TDiv:    "$0, $1, div",
	api.TRem:    "$0, $1, rem",
	api.TLt:     "$0, $1, lt",
	api.TLe:     "$0, $1, le",
	api.TGt:     "$0, $1, gt",
	api.TGe:     "$0, $1, ge",
	api.TEq:     "$0, $1, eq K",
	api.TNe:     "$0, $1, eq K, not",
	api.TOr:     "$0, unless R, true, jump E, R:, $1, E:",
	api.TAnd:    "$0, unless F, $1, jump E, F:, false, E:",
	api.TField:  "$0, field N",
	api.TDo:     "*, do N",
	api.TLet:    "$0, store N",
	api.TSet:    "$0, store N",
	api.TIf:     "$0, unless L, $1, L:",
	api.TRepeat: "push [0], store M, L:, load M, push [N], lt, unless E, $0, load M, push [1], add, store M, jump L, E:",
	api.TEach:   "$0, store M, push [0], store M+1, L:, each M M+1 E, store N, $1, jump L, E:",
	api.TChoose: "$0, choose L, store N, $1, L:",
	api.TStop:   "stop",
	api.TAbort:  "abort",
}

// Those of nodes with a third kid.
var withThird = map[int8]string{
	api.TIf:     "$0, unless L, $1, jump E, L:, $2, E:",
	api.TChoose: "$0, choose L, store N, $1, jump E, L:, $2, E:",
}

// Those of the calls, by the function's number.
var calls = []string{"$0, next", "$0, zone W", "$0, random", "$0, top", "$0, $1, has", "$0, is [text]", "$0, abs", "$0, $1, min", "$0, $1, max"}

// How many bytes instructions with operands have; all others have one.
var sizes = map[string]int{"push": 3, "load": 2, "store": 2, "eq": 2, "jump": 3, "unless": 3, "each": 5, "choose": 3, "zone": 2, "is": 3, "field": 2, "do": 2}

// writer: writes code by the table's words; an offset is a letter and the number of the node that it belongs to, till all is there.
type writer struct {
	ints  []int64
	texts []string
	rows  []string
	nodes int
}

// accountOf is the code of the ability, by the document's words.
func accountOf(a api.Ability, ints []int64, texts []string) []byte {
	w := &writer{ints: ints, texts: texts}
	trees := split(a.Tree)
	form := "$0, stop"
	if a.When {
		form = "$0, unless E, $1, E:, stop"
	}
	w.write(api.Node{}, trees, form)
	return w.bytes()
}

// split is the trees that stand one behind the other.
func split(l []api.Node) [][]api.Node {
	var trees [][]api.Node
	for len(l) > 0 {
		end := tree.Behind(l, 0)
		trees, l = append(trees, l[:end]), l[end:]
	}
	return trees
}

func (w *writer) tree(l []api.Node) {
	n, kids := l[0], split(l[1:])
	form := plain[n.Op]
	if n.Op == api.TCall {
		form = calls[n.N]
	} else if third, ok := withThird[n.Op]; ok && len(kids) == 3 {
		form = third
	}
	w.write(n, kids, form)
}

func (w *writer) write(n api.Node, kids [][]api.Node, form string) {
	w.nodes++
	number := w.nodes
	for _, part := range strings.Split(form, ", ") {
		switch {
		case part == "*":
			for _, kid := range kids {
				w.tree(kid)
			}
		case part[0] == '$':
			w.tree(kids[part[1]-'0'])
		case strings.HasSuffix(part, ":"):
			w.rows = append(w.rows, fmt.Sprint(part[:1], number, ":"))
		default:
			words := strings.Fields(part)
			for i := range words[1:] {
				words[i+1] = w.operand(words[i+1], number, n, kids)
			}
			w.rows = append(w.rows, strings.Join(words, " "))
		}
	}
}

func (w *writer) operand(word string, number int, n api.Node, kids [][]api.Node) string {
	switch word {
	case "[0]":
		return fmt.Sprint(slices.Index(w.ints, 0))
	case "[1]":
		return fmt.Sprint(slices.Index(w.ints, 1))
	case "[N]":
		return fmt.Sprint(slices.Index(w.ints, n.N))
	case "[text]":
		return fmt.Sprint(slices.Index(w.texts, kids[1][0].Text))
	case "N":
		return fmt.Sprint(n.N)
	case "M":
		return fmt.Sprint(n.M)
	case "M+1":
		return fmt.Sprint(n.M + 1)
	case "K":
		return fmt.Sprint(kids[0][0].Kind)
	case "W":
		return fmt.Sprint(kids[1][0].N)
	}
	return fmt.Sprint(word, number)
}

// bytes is the code that the rows are.
func (w *writer) bytes() []byte {
	offsets, at := map[string]string{}, 0
	for _, row := range w.rows {
		if name, ok := strings.CutSuffix(row, ":"); ok {
			offsets[name] = fmt.Sprint(at)
		} else {
			at += max(1, sizes[strings.Fields(row)[0]])
		}
	}
	var text strings.Builder
	at = 0
	for _, row := range w.rows {
		if strings.HasSuffix(row, ":") {
			continue
		}
		words := strings.Fields(row)
		fmt.Fprint(&text, at)
		for _, word := range words {
			if offset, ok := offsets[word]; ok {
				word = offset
			}
			fmt.Fprint(&text, " ", word)
		}
		fmt.Fprintln(&text)
		at += max(1, sizes[words[0]])
	}
	l, why, row := code.Parse(text.String())
	if why != api.OK {
		panic(fmt.Sprint("row ", row, " of ", text.String()))
	}
	b, _, _ := code.Put(l...)
	return b
}

// told is the code's instructions in one row.
func told(b []byte) string {
	l, _, _ := code.All(b)
	return strings.ReplaceAll(strings.TrimSuffix(code.Text(l), "\n"), "\n", ", ")
}

// wantCode says that the ability's code is this one.
func wantCode(t testing.TB, what string, a api.Ability, ints []int64, texts []string, want []byte) {
	t.Helper()
	b, why := emit.Able(a, ints, texts)
	if why != api.OK || !bytes.Equal(b, want) {
		t.Fatalf("P17.1: %.1000s: %d, %.2000s, not %.2000s", what, int(why), told(b), told(want))
	}
}

// wantRefused says that the ability has no code.
func wantRefused(t testing.TB, what string, a api.Ability, ints []int64, texts []string, want api.Errno) {
	t.Helper()
	if b, why := emit.Able(a, ints, texts); why != want || len(b) > 0 {
		t.Errorf("P17.1: %.1000s: %d, %.200s, not %d and no code", what, int(why), told(b), int(want))
	}
}
