package mean_test

import (
	"math/big"
	"slices"

	"tableau/api"
	"tableau/tree"
)

// An own account of what the document says: straight from a tree with names in it, on a state that is changed in place, its numbers of any length; how a run ends is a panic.

// ended: how a run ended.
type ended struct {
	end int8
	why api.Errno
	ask int64
}

// thing: a card, a player or a zone, with its number.
type thing struct {
	what   string
	number int
}

// account: goes through a tree; of values there are *big.Int, bool, thing and []int.
type account struct {
	nodes   []api.Node
	tags    [][]string // by kind
	s       api.State
	answers []int64
	used    int
	trace   []api.Event
	named   map[string]any
}

// accountOf is what a run of the last TOn of the tree, of as many designs as there are lists of tags, is to come to.
func accountOf(nodes []api.Node, tags [][]string, s api.State, self, me int, answers []int64) (r api.Result) {
	a := &account{nodes: nodes, tags: tags, s: ownState(s), answers: answers, named: map[string]any{"self": thing{"card", self}, "me": thing{"player", me}}}
	defer func() {
		e, ok := recover().(ended)
		if !ok {
			panic("the account is wrong")
		}
		r = api.Result{State: a.s, Trace: a.trace, End: e.end, Err: e.why, Ask: e.ask, Used: a.used}
	}()
	last := 0
	for at, n := range nodes {
		if n.Op == api.TOn {
			last = at
		}
	}
	kids := tree.Kids(nodes, last)
	if len(kids) == 2 && a.tell(kids[0]) == false {
		panic(ended{end: api.Done})
	}
	a.do(kids[len(kids)-1])
	panic(ended{end: api.Done})
}

// ownState is the state in memory of its own.
func ownState(s api.State) api.State {
	s.Players, s.Cards = slices.Clone(s.Players), slices.Clone(s.Cards)
	zones := make([][]int, len(s.Zones))
	for z := range zones {
		zones[z] = slices.Clone(s.Zones[z])
	}
	s.Zones = zones
	return s
}

func abort(why api.Errno) { panic(ended{end: api.Aborted, why: why}) }

func (a *account) answer(below int64) int64 {
	if a.used >= len(a.answers) || a.answers[a.used] < 0 || a.answers[a.used] > below-1 {
		panic(ended{end: api.Starved, ask: below})
	}
	a.used++
	return a.answers[a.used-1]
}

func (a *account) do(at int) {
	n, kids := a.nodes[at], tree.Kids(a.nodes, at)
	switch n.Op {
	case api.TBlock:
		for _, k := range kids {
			a.do(k)
		}
	case api.TLet, api.TSet:
		a.named[n.Text] = a.tell(kids[0])
	case api.TIf:
		if a.tell(kids[0]) == true {
			a.do(kids[1])
		} else if len(kids) == 3 {
			a.do(kids[2])
		}
	case api.TRepeat:
		for i := range n.N {
			a.named[n.Text] = big.NewInt(i)
			a.do(kids[0])
		}
	case api.TEach:
		for _, c := range a.tell(kids[0]).([]int) {
			a.named[n.Text] = thing{"card", c}
			a.do(kids[1])
		}
	case api.TChoose:
		l := a.tell(kids[0]).([]int)
		if len(l) > 0 {
			a.named[n.Text] = thing{"card", l[a.answer(int64(len(l)))]}
			a.do(kids[1])
		} else if len(kids) == 3 {
			a.do(kids[2])
		}
	case api.TStop:
		panic(ended{end: api.Done})
	case api.TAbort:
		abort(api.ErrAbort)
	case api.TDo:
		a.effect(n.Text, a.all(kids))
	}
}

func (a *account) all(kids []int) []any {
	var l []any
	for _, k := range kids {
		l = append(l, a.tell(k))
	}
	return l
}

func whole(n int64) *big.Int { return big.NewInt(n) }

// ends is the number within 64 bits.
func ends(n *big.Int) *big.Int { return whole(cut(n)) }

func (a *account) tell(at int) any {
	n, kids := a.nodes[at], tree.Kids(a.nodes, at)
	switch n.Op {
	case api.TNum:
		return whole(n.N)
	case api.TWord:
		return int(n.N)
	case api.TText:
		return n.Text
	case api.TTrue:
		return true
	case api.TFalse:
		return false
	case api.TName:
		return a.named[n.Text]
	case api.TOr:
		return a.tell(kids[0]) == true || a.tell(kids[1]) == true
	case api.TAnd:
		return a.tell(kids[0]) == true && a.tell(kids[1]) == true
	case api.TNot:
		return a.tell(kids[0]) == false
	case api.TNeg:
		return ends(new(big.Int).Neg(a.tell(kids[0]).(*big.Int)))
	case api.TField:
		return a.field(n.Text, a.tell(kids[0]))
	case api.TCall:
		return a.function(n.Text, a.all(kids))
	}
	left, right := a.tell(kids[0]), a.tell(kids[1])
	x, ok := left.(*big.Int)
	if !ok {
		return (left == right) == (n.Op == api.TEq)
	}
	return reckoned(n.Op, x, right.(*big.Int))
}

func reckoned(op int8, x, y *big.Int) any {
	z := new(big.Int)
	switch op {
	case api.TEq:
		return x.Cmp(y) == 0
	case api.TNe:
		return x.Cmp(y) != 0
	case api.TLt:
		return x.Cmp(y) < 0
	case api.TLe:
		return x.Cmp(y) <= 0
	case api.TGt:
		return x.Cmp(y) > 0
	case api.TGe:
		return x.Cmp(y) >= 0
	case api.TAdd:
		return ends(z.Add(x, y))
	case api.TSub:
		return ends(z.Sub(x, y))
	case api.TMul:
		return ends(z.Mul(x, y))
	}
	if y.Sign() == 0 {
		abort(api.ErrDivide)
	}
	if op == api.TDiv {
		return ends(z.Quo(x, y))
	}
	return ends(z.Rem(x, y))
}

// at is the zone of the card, and its place there.
func (a *account) at(card int) (int, int) {
	for z, l := range a.s.Zones {
		if i := slices.Index(l, card); i >= 0 {
			return z, i
		}
	}
	panic("the card is lost")
}

func (a *account) field(name string, of any) any {
	if l, ok := of.([]int); ok {
		return whole(int64(len(l)))
	}
	i := of.(thing).number
	switch name {
	case "power":
		return whole(int64(a.s.Cards[i].Power))
	case "health":
		return whole(int64(a.s.Cards[i].Health))
	case "damage":
		return whole(int64(a.s.Cards[i].Damage))
	case "marks":
		return whole(int64(a.s.Cards[i].Marks))
	case "owner":
		return thing{"player", a.s.Cards[i].Owner}
	case "place":
		z, _ := a.at(i)
		return thing{"zone", z}
	case "life":
		return whole(int64(a.s.Players[i].Life))
	case "energy":
		return whole(int64(a.s.Players[i].Energy))
	case "out":
		return a.s.Players[i].Out
	case "size":
		return whole(int64(len(a.s.Zones[i])))
	case "cards":
		return slices.Clone(a.s.Zones[i])
	}
	return thing{"player", i / 4} // holder
}

func (a *account) function(name string, l []any) any {
	switch name {
	case "next":
		return thing{"player", (l[0].(thing).number + 1) % len(a.s.Players)}
	case "zone":
		return thing{"zone", 4*l[0].(thing).number + l[1].(int)}
	case "random":
		n := l[0].(*big.Int).Int64()
		if n < 1 {
			abort(api.ErrRandom)
		}
		return whole(a.answer(n))
	case "top":
		zone := a.s.Zones[l[0].(thing).number]
		if len(zone) == 0 {
			abort(api.ErrEmpty)
		}
		return thing{"card", zone[0]}
	case "has":
		return slices.Contains(l[0].([]int), l[1].(thing).number)
	case "is":
		return slices.Contains(a.tags[a.s.Cards[l[0].(thing).number].Kind], l[1].(string))
	case "abs":
		return ends(new(big.Int).Abs(l[0].(*big.Int)))
	}
	x, y := l[0].(*big.Int), l[1].(*big.Int)
	if (x.Cmp(y) < 0) == (name == "min") {
		return x
	}
	return y
}

func (a *account) effect(name string, l []any) {
	i := l[0].(thing).number
	switch name {
	case "move":
		a.move(i, l[1].(thing).number, false)
	case "put":
		a.move(i, l[1].(thing).number, true)
	case "draw":
		if deck := a.s.Zones[4*i]; len(deck) > 0 {
			a.move(deck[0], 4*i+1, false)
		}
	case "hit":
		a.change(api.Event{Kind: api.EvCard, Field: api.FDamage, Card: i}, &a.s.Cards[i].Damage, l[1].(*big.Int))
	case "mark":
		a.change(api.Event{Kind: api.EvCard, Field: api.FMarks, Card: i}, &a.s.Cards[i].Marks, l[1].(*big.Int))
	case "grow":
		a.change(api.Event{Kind: api.EvCard, Field: api.FPower, Card: i}, &a.s.Cards[i].Power, l[1].(*big.Int))
	case "harm":
		a.change(api.Event{Kind: api.EvPlayer, Field: api.FLife, Player: i}, &a.s.Players[i].Life, new(big.Int).Neg(l[1].(*big.Int)))
	case "gain":
		a.change(api.Event{Kind: api.EvPlayer, Field: api.FEnergy, Player: i}, &a.s.Players[i].Energy, l[1].(*big.Int))
	case "shuffle":
		a.shuffle(i)
	}
}

func (a *account) move(card, to int, first bool) {
	from, at := a.at(card)
	a.s.Zones[from] = slices.Delete(a.s.Zones[from], at, at+1)
	place := 0
	if !first {
		place = len(a.s.Zones[to])
	}
	a.s.Zones[to] = slices.Insert(a.s.Zones[to], place, card)
	if from != to || at != place {
		a.trace = append(a.trace, api.Event{Kind: api.EvMove, Card: card, From: from, FromAt: at, To: to, ToAt: place})
	}
}

func (a *account) change(e api.Event, stat *int32, by *big.Int) {
	now := new(big.Int).Add(whole(int64(*stat)), by)
	if now.Cmp(whole(api.MaxStat)) > 0 {
		now = whole(api.MaxStat)
	}
	if now.Cmp(whole(-api.MaxStat)) < 0 {
		now = whole(-api.MaxStat)
	}
	e.Was, e.Now = *stat, int32(now.Int64())
	*stat = e.Now
	if e.Was != e.Now {
		a.trace = append(a.trace, e)
	}
}

func (a *account) shuffle(zone int) {
	l := a.s.Zones[zone]
	order, ask, ok := shuffled(len(l), a.answers[a.used:])
	if !ok {
		panic(ended{end: api.Starved, ask: ask})
	}
	a.used += max(len(l)-1, 0)
	turned := make([]int, len(l))
	for i, there := range order {
		turned[i] = l[there]
	}
	if !slices.Equal(turned, l) {
		a.trace = append(a.trace, api.Event{Kind: api.EvShuffle, From: zone, Order: order})
	}
	a.s.Zones[zone] = turned
}
