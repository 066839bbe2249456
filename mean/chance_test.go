package mean_test

import (
	"math/rand"
	"strconv"
	"strings"
	"testing"

	"tableau/api"
	"tableau/check"
	"tableau/mean"
	"tableau/state"
)

// writer: writes sources by chance, all of which may be.
type writer struct {
	*rand.Rand
	strings.Builder
	seen  []seen
	slots int
	named int
	sap   int
	loops int
}

// seen: a name with what it stands for.
type seen struct {
	name string
	kind int8
	let  bool
}

func (w *writer) pick(l ...string) string { return l[w.Intn(len(l))] }

// source is a card with one ability; behind it so many more cards with tags alone.
func source(r *rand.Rand, more int) (string, [][]string) {
	w := &writer{Rand: r, slots: 2, sap: 1 + r.Intn(40), seen: []seen{{"self", api.KCard, false}, {"me", api.KPlayer, false}}}
	tags := [][]string{}
	for i := range more {
		own := []string{}
		w.WriteString(`card "` + strconv.Itoa(i) + `" { `)
		for _, tag := range []string{"beast", "", "x y"} {
			if w.Intn(2) == 0 {
				own = append(own, tag)
				w.WriteString(`tag "` + tag + `"; `)
			}
		}
		tags = append(tags, own)
		w.WriteString("} ")
	}
	w.WriteString(`card "last" { tag "last"; on play `)
	if w.Intn(8) == 0 {
		w.WriteString("when " + w.expr(api.KBool, 3) + " ")
	}
	w.block(0)
	w.WriteString(" }")
	return w.String(), append(tags, []string{"last"})
}

func (w *writer) block(deep int) {
	around := len(w.seen)
	w.WriteString("{ ")
	for range 1 + w.Intn(5) {
		w.statement(deep)
		if w.sap < 0 {
			break
		}
	}
	w.WriteString("} ")
	w.seen = w.seen[:around]
}

// declare is a new name, if there are so many slots left.
func (w *writer) declare(kind int8, let bool, slots int) (string, bool) {
	if w.slots+slots > 32 {
		return "", false
	}
	w.slots += slots
	w.named++
	name := "v" + strconv.Itoa(w.named)
	w.seen = append(w.seen, seen{name, kind, let})
	return name, true
}

func (w *writer) statement(deep int) {
	w.sap--
	if w.sap < 0 {
		w.effect()
		return
	}
	switch w.Intn(15) {
	case 0, 1:
		kind := int8(1 + w.Intn(6))
		e := w.expr(kind, 3)
		if name, ok := w.declare(kind, true, 1); ok {
			w.WriteString("let " + name + " = " + e + "; ")
		}
	case 2:
		if v := w.seen[w.Intn(len(w.seen))]; v.let {
			w.WriteString(v.name + " = " + w.expr(v.kind, 3) + "; ")
		}
	case 3, 4:
		w.WriteString("if " + w.expr(api.KBool, 3) + " ")
		w.block(deep + 1)
		switch w.Intn(3) {
		case 0:
			w.WriteString("else ")
			w.block(deep + 1)
		case 1:
			w.WriteString("else if " + w.expr(api.KBool, 2) + " ")
			w.block(deep + 1)
		}
	case 5, 6, 7:
		w.loop(deep)
	case 8:
		if w.Intn(6) == 0 {
			w.WriteString(w.pick("stop; ", "abort; "))
		}
	default:
		w.effect()
	}
}

// loop is a repeat, an each or a choose; not too many within one another.
func (w *writer) loop(deep int) {
	if w.loops >= 3 {
		w.effect()
		return
	}
	w.loops++
	around, kind, slots := len(w.seen), w.Intn(3), 1
	list := w.expr(api.KList, 2)
	of := api.KCard
	switch kind {
	case 0:
		of = api.KInt
	case 1:
		slots = 3
	}
	if name, ok := w.declare(of, false, slots); ok {
		w.WriteString([]string{"repeat " + strconv.Itoa(w.Intn(5)) + " as " + name, "each " + name + " in " + list, "choose " + name + " in " + list}[kind] + " ")
		w.block(deep + 1)
		w.seen = w.seen[:around]
		if kind == 2 && w.Intn(2) == 0 {
			w.WriteString("else ")
			w.block(deep + 1)
		}
	}
	w.loops--
}

func (w *writer) effect() {
	card, player, zone, n := func() string { return w.expr(api.KCard, 2) }, func() string { return w.expr(api.KPlayer, 2) }, func() string { return w.expr(api.KZone, 2) }, func() string { return w.expr(api.KInt, 3) }
	switch name := w.pick("move", "put", "draw", "hit", "harm", "gain", "mark", "grow", "shuffle"); name {
	case "move", "put":
		w.WriteString(name + "(" + card() + ", " + zone() + "); ")
	case "draw":
		w.WriteString(name + "(" + player() + "); ")
	case "shuffle":
		w.WriteString(name + "(" + zone() + "); ")
	case "harm", "gain":
		w.WriteString(name + "(" + player() + ", " + n() + "); ")
	default:
		w.WriteString(name + "(" + card() + ", " + n() + "); ")
	}
}

// expr is an expression of that kind.
func (w *writer) expr(kind int8, deep int) string {
	var names []string
	for _, v := range w.seen {
		if v.kind == kind {
			names = append(names, v.name)
		}
	}
	if len(names) > 0 && (deep <= 0 || w.Intn(3) == 0) {
		return w.pick(names...)
	}
	deep--
	of := func(kind int8) string { return w.expr(kind, deep) }
	two := func(mark string, kind int8) string { return "(" + of(kind) + " " + mark + " " + of(kind) + ")" }
	switch kind {
	case api.KInt:
		if deep < 0 {
			return w.pick("0", "1", "2", "3", "7", "1000000000", "9223372036854775807")
		}
		return w.number(of, two)
	case api.KBool:
		if deep < 0 {
			return w.pick("true", "false")
		}
		return w.boolean(of, two)
	case api.KCard:
		if deep < 0 || w.Intn(2) == 0 {
			return "self"
		}
		if w.Intn(3) > 0 {
			return "top(" + of(api.KCard) + ".place)"
		}
		return "top(" + of(api.KZone) + ")"
	case api.KPlayer:
		if deep < 0 {
			return "me"
		}
		return w.pick("me", "next("+of(api.KPlayer)+")", of(api.KCard)+".owner", of(api.KZone)+".holder")
	case api.KZone:
		if deep < 0 || w.Intn(4) == 0 {
			return w.pick("zone(me, ", "zone(next(me), ") + w.pick("deck", "hand", "board", "grave") + ")"
		}
		return w.pick("zone("+of(api.KPlayer)+", "+w.pick("deck", "hand", "board", "grave")+")", of(api.KCard)+".place")
	}
	return w.pick("self.place", "self.place", of(api.KZone)) + ".cards"
}

func (w *writer) number(of func(int8) string, two func(string, int8) string) string {
	switch w.Intn(12) {
	case 0:
		return strconv.FormatInt(w.Int63()>>w.Intn(63), 10)
	case 1:
		return "(-" + of(api.KInt) + ")"
	case 2, 3:
		return two(w.pick("+", "-", "*"), api.KInt)
	case 4:
		return two(w.pick("/", "%"), api.KInt)
	case 5, 6:
		return of(api.KCard) + "." + w.pick("power", "health", "damage", "marks")
	case 7:
		return of(api.KPlayer) + "." + w.pick("life", "energy")
	case 8:
		return w.pick(of(api.KZone)+".size", of(api.KList)+".count")
	case 9:
		return w.pick("abs("+of(api.KInt)+")", "min("+of(api.KInt)+", "+of(api.KInt)+")", "max("+of(api.KInt)+", "+of(api.KInt)+")")
	case 10:
		return w.pick("random("+of(api.KInt)+")", "random(1 + abs("+of(api.KInt)+"))", "random(6)")
	}
	return strconv.Itoa(w.Intn(12))
}

func (w *writer) boolean(of func(int8) string, two func(string, int8) string) string {
	switch w.Intn(9) {
	case 0:
		return "(!" + of(api.KBool) + ")"
	case 1, 2:
		return two(w.pick("||", "&&"), api.KBool)
	case 3, 4:
		return two(w.pick("<", "<=", ">", ">="), api.KInt)
	case 5:
		return two(w.pick("==", "!="), int8(1+w.Intn(5)))
	case 6:
		return "has(" + of(api.KList) + ", " + of(api.KCard) + ")"
	case 7:
		return "is(" + of(api.KCard) + ", \"" + w.pick("beast", "", "x y", "last", "none") + "\")"
	}
	return of(api.KPlayer) + ".out"
}

// anyState is a state by chance that may be, its cards of so many kinds.
func anyState(r *rand.Rand, kinds int) api.State {
	stat := func() int32 {
		return []int32{0, int32(r.Intn(30)), int32(r.Intn(30)) - 15, api.MaxStat, -api.MaxStat, api.MaxStat - int32(r.Intn(3)), int32(r.Intn(3)) - api.MaxStat}[r.Intn(7)]
	}
	s := api.State{Players: make([]api.Player, 2+r.Intn(3)), Turn: 1 + r.Int31(), End: int8(r.Intn(3))}
	s.Zones = make([][]int, 4*len(s.Players))
	for p := range s.Players {
		s.Players[p] = api.Player{Life: stat(), Energy: stat(), Out: r.Intn(3) == 0}
	}
	few := 1 + r.Intn(len(s.Zones))
	for _, c := range r.Perm(1 + r.Intn(9)) {
		s.Cards = append(s.Cards, api.Card{Kind: r.Intn(kinds), Owner: r.Intn(len(s.Players)), Power: stat(), Health: stat(), Damage: stat(), Marks: stat()})
		z := r.Intn(few)
		s.Zones[z] = append(s.Zones[z], c)
	}
	s.Whose = r.Intn(len(s.Players))
	if s.End == api.Won {
		s.Winner = r.Intn(len(s.Players))
	}
	s.Turn = max(s.Turn, 1)
	return s
}

// story: a source on a state, and the answers that are given to it, one by one.
type story struct {
	t     *testing.T
	r     *rand.Rand
	src   string
	d     []api.Design
	nodes []api.Node
	tags  [][]string
	s     api.State
	card  int
	me    int
}

func (y *story) run(answers []int64) api.Result {
	got, why := mean.Run(y.d, len(y.d)-1, 0, y.s, y.card, y.me, answers)
	if why != api.OK {
		y.t.Fatalf("P14.1: %s: refused, %d", y.src, int(why))
	}
	wantSound(y.t, y.src, y.s, answers, got)
	want := accountOf(y.nodes, y.tags, y.s, y.card, y.me, answers)
	if !sameResult(got, want) {
		y.t.Fatalf("P14.2: %s\non %+v, card %d, player %d, answers %v:\n%s\n%+v, not\n%s\n%+v", y.src, y.s, y.card, y.me, answers, texts(got.Trace), got, texts(want.Trace), want)
	}
	return got
}

// next is an answer to that question, mostly one that may be.
func (y *story) next(ask int64) int64 {
	switch y.r.Intn(40) {
	case 0:
		return ask
	case 1:
		return -1
	case 2:
		return int64(y.r.Uint64())
	}
	return y.r.Int63n(ask)
}

// wantMore says W6: a run that starved, done with more answers behind, has its trace as a beginning, and uses as many answers at least.
func (y *story) wantMore(less, more api.Result) {
	if more.Used < less.Used || len(more.Trace) < len(less.Trace) {
		y.t.Fatalf("P14.2: %s: with more answers it comes to less", y.src)
	}
	for i, e := range less.Trace {
		if plain(e) != plain(more.Trace[i]) {
			y.t.Fatalf("P14.2: %s: with more answers %s comes of %s", y.src, texts(more.Trace), texts(less.Trace))
		}
	}
}

// wantLeft says that a run that has not starved comes to the same with other answers, or none, behind those that it used.
func (y *story) wantLeft(answers []int64, r api.Result) {
	used := answers[:r.Used:r.Used]
	for _, more := range [][]int64{nil, {0}, {y.r.Int63(), 0, -1}, {-1}} {
		if again := y.run(append(used, more...)); !sameResult(again, r) {
			y.t.Fatalf("P14.2: %s: with %v left over it comes to something else", y.src, more)
		}
	}
}

// tell runs the story with one answer more each time, till it ends otherwise than starved.
func (y *story) tell() api.Result {
	var answers []int64
	r := y.run(answers)
	for len(answers) < 60 && r.End == api.Starved {
		// What a shuffle has taken and given back stands there still.
		answers = append(answers, y.next(r.Ask))
		more := y.run(answers)
		y.wantMore(r, more)
		if more.End == api.Starved && more.Ask == r.Ask && more.Used == r.Used && len(more.Trace) == len(r.Trace) {
			return more // the answer was none
		}
		r = more
	}
	if r.End != api.Starved {
		y.wantLeft(answers, r)
	}
	return r
}

func TestByChance(t *testing.T) {
	r := rand.New(rand.NewSource(4))
	counts := map[string]int{}
	for range 6000 {
		src, tags := source(r, r.Intn(4))
		nodes := parsed(t, src)
		d, why, at := check.Pack(nodes)
		if why != api.OK {
			t.Fatalf("%s: %d at %d", src, int(why), at)
		}
		s := anyState(r, len(tags))
		y := &story{t: t, r: r, src: src, d: d, nodes: nodes, tags: tags, s: s, card: r.Intn(len(s.Cards)), me: r.Intn(len(s.Players))}
		if why, at := state.Check(s); why != api.OK {
			t.Fatalf("the state may not be: %d", at)
		}
		got := y.tell()
		counts[strconv.Itoa(int(got.End))+" "+strconv.Itoa(int(got.Err))]++
		counts["events"] += len(got.Trace)
		counts["answers"] += got.Used
		for _, e := range got.Trace {
			counts["event "+strconv.Itoa(int(e.Kind))]++
		}
	}
	for _, what := range []string{"0 0", "1 60", "1 61", "1 62", "1 63", "2 0", "event 1", "event 2", "event 3", "event 4"} {
		if counts[what] < 100 {
			t.Errorf("%s: %d: too few", what, counts[what])
		}
	}
	t.Log(counts)
}
