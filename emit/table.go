package emit

import (
	"tableau/api"
	"tableau/code"
)

// row: how a node is written.
type row struct {
	write func(w *writer, n api.Node)
}

// table: what is looked up while code is written.
type table struct {
	nodes     [api.TCall + 1]row // by Op; nodes that are no code of their own have none
	functions []row              // the calls of each, by number
	sizes     [api.IDo + 1]int   // of instructions, by opcode
}

func newTable() *table {
	t := &table{functions: functions()}
	t.addStatements()
	t.addItems()
	t.addMarks()
	for op := range t.sizes {
		t.sizes[op] = code.Size(byte(op))
	}
	return t
}

func (t *table) addStatements() {
	t.nodes[api.TBlock] = bare()
	t.nodes[api.TLet] = numbered(api.IStore)
	t.nodes[api.TSet] = numbered(api.IStore)
	t.nodes[api.TIf] = row{branch}
	t.nodes[api.TRepeat] = row{repeat}
	t.nodes[api.TEach] = row{each}
	t.nodes[api.TChoose] = row{choose}
	t.nodes[api.TStop] = bare(api.IStop)
	t.nodes[api.TAbort] = bare(api.IAbort)
	t.nodes[api.TDo] = numbered(api.IDo)
}

func (t *table) addItems() {
	t.nodes[api.TNum] = row{func(w *writer, n api.Node) { w.push(n.N) }}
	t.nodes[api.TTrue] = bare(api.ITrue)
	t.nodes[api.TFalse] = bare(api.IFalse)
	t.nodes[api.TName] = numbered(api.ILoad)
	t.nodes[api.TField] = numbered(api.IField)
	t.nodes[api.TCall] = row{call}
}

func (t *table) addMarks() {
	t.nodes[api.TNot] = bare(api.INot)
	t.nodes[api.TNeg] = bare(api.INeg)
	t.nodes[api.TOr] = row{or}
	t.nodes[api.TAnd] = row{and}
	t.nodes[api.TEq] = row{equal}
	t.nodes[api.TNe] = row{unequal}
	t.nodes[api.TLt] = bare(api.ILt)
	t.nodes[api.TLe] = bare(api.ILe)
	t.nodes[api.TGt] = bare(api.IGt)
	t.nodes[api.TGe] = bare(api.IGe)
	t.nodes[api.TAdd] = bare(api.IAdd)
	t.nodes[api.TSub] = bare(api.ISub)
	t.nodes[api.TMul] = bare(api.IMul)
	t.nodes[api.TDiv] = bare(api.IDiv)
	t.nodes[api.TRem] = bare(api.IRem)
}

// functions is how the calls of the functions are written, by number.
func functions() []row {
	return []row{
		bare(api.INext),
		{zone},
		bare(api.IRandom),
		bare(api.ITop),
		bare(api.IHas),
		{is},
		bare(api.IAbs),
		bare(api.IMin),
		bare(api.IMax),
	}
}

// bare makes the row of a node that is its kids, and behind them these instructions, which have no operands.
func bare(ops ...byte) row {
	return row{func(w *writer, n api.Node) {
		w.kids(n)
		for _, op := range ops {
			w.put(op)
		}
	}}
}

// numbered makes the row of a node that is its kids, and behind them an instruction with the node's N.
func numbered(op byte) row {
	return row{func(w *writer, n api.Node) {
		w.kids(n)
		w.put(op, int(n.N))
	}}
}
