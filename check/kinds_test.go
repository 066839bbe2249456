package check

import (
	"strings"
	"testing"

	"tableau/api"
)

// sample: an expression of each kind, and where its node stands in it.
type sample struct {
	kind int8
	src  string
	at   int
}

func samples() []sample {
	return []sample{
		{kInt, "1", 0}, {kInt, "(self.power)", 6}, {kInt, "random(2)", 0}, {kBool, "true", 0}, {kBool, "me.out", 3}, {kBool, "(1 < 2)", 3}, {kCard, "self", 0}, {kCard, "top(self.place)", 0},
		{kPlayer, "me", 0}, {kPlayer, "self.owner", 5}, {kZone, "self.place", 5}, {kZone, "zone(me, deck)", 0}, {kList, "self.place.cards", 11},
	}
}

// marked is the sample with an @ where its node stands.
func (s sample) marked() string {
	return s.src[:s.at] + "@" + s.src[s.at:]
}

// wantTold holds that the expression is of that kind, and none other.
func wantTold(t *testing.T, expr string, kind int8) {
	t.Helper()
	d := wantOK(t, in("let x = "+expr+";"))
	if d == nil {
		return
	}
	a := d[0].Able[0]
	if a.Slots[2] != kind || a.Tree[2].Kind != kind {
		t.Errorf("P13.1: %s is of the kind %d, not %d", expr, a.Tree[2].Kind, kind)
	}
}

// mark: how an operator is written, what its operands are (0: both of any one kind but a list), and what it tells.
type mark struct {
	text        string
	takes, kind int8
}

func marks() []mark {
	return []mark{
		{"||", kBool, kBool}, {"&&", kBool, kBool}, {"==", 0, kBool}, {"!=", 0, kBool}, {"<", kInt, kBool}, {"<=", kInt, kBool}, {">", kInt, kBool}, {">=", kInt, kBool},
		{"+", kInt, kInt}, {"-", kInt, kInt}, {"*", kInt, kInt}, {"/", kInt, kInt}, {"%", kInt, kInt},
	}
}

func TestMarksBetweenTwo(t *testing.T) {
	for _, m := range marks() {
		for _, left := range samples() {
			takes := m.takes
			if takes == 0 {
				takes = left.kind
			}
			for _, right := range samples() {
				switch {
				case left.kind != takes || m.takes == 0 && left.kind == kList:
					wantFault(t, in("let x = "+left.marked()+" "+m.text+" "+right.src+"; wave();"), api.ErrType)
				case right.kind != takes:
					wantFault(t, in("let x = "+left.src+" "+m.text+" "+right.marked()+"; wave();"), api.ErrType)
				default:
					wantTold(t, left.src+" "+m.text+" "+right.src, m.kind)
				}
			}
			if left.kind == takes && left.kind != kList {
				wantFault(t, in("let x = "+left.src+" "+m.text+" @y;"), api.ErrName)
			}
		}
		wantFault(t, in("let x = @y "+m.text+" z;"), api.ErrName)
	}
}

func TestMarksAhead(t *testing.T) {
	for _, s := range samples() {
		for m, kind := range map[string]int8{"!": kBool, "-": kInt} {
			if s.kind == kind {
				wantTold(t, m+s.src, kind)
				wantTold(t, m+m+s.src, kind)
			} else {
				wantFault(t, in("let x = "+m+s.marked()+";"), api.ErrType)
			}
		}
	}
	wantFault(t, in("let x = -(@!true);"), api.ErrType)
	wantFault(t, in("let x = !@-1;"), api.ErrType)
}

// signs of the document's table: name, what it takes, what it tells; w a zone's word, t a text.
const (
	fieldTable = "power c i, health c i, damage c i, marks c i, owner c p, place c z, life p i, energy p i, out p b, size z i, cards z l, holder z p, count l i"
	funcTable  = "next p p, zone pw z, random i i, top z c, has lc b, is ct b, abs i i, min ii i, max ii i"
	doTable    = "move cz -, put cz -, draw p -, hit ci -, harm pi -, gain pi -, mark ci -, grow ci -, shuffle z -"
)

// entry: a row of the document's table; of what is taken letters.
type entry struct {
	name, takes string
	tells       int8
}

func kindOf(letter string) int8 {
	return int8(strings.Index("-ibcpzl", letter))
}

func entries(table string) []entry {
	var l []entry
	for row := range strings.SplitSeq(table, ", ") {
		f := strings.Fields(row)
		l = append(l, entry{f[0], f[1], kindOf(f[2])})
	}
	return l
}

func TestFields(t *testing.T) {
	for number, f := range entries(fieldTable) {
		for _, s := range samples() {
			if s.kind != kindOf(f.takes) {
				wantFault(t, in("let x = "+s.marked()+"."+f.name+"; wave();"), api.ErrType)
				continue
			}
			wantTold(t, s.src+"."+f.name, f.tells)
			d := wantOK(t, in("let x = "+s.src+"."+f.name+";"))
			if n := d[0].Able[0].Tree[2]; n.N != int64(number) || n.M != 0 || n.Text != "" {
				t.Errorf("P13.1: the field %s: %v", f.name, n)
			}
		}
		wantFault(t, in("let x = @y."+f.name+";"), api.ErrName)
		for _, near := range []string{f.name + "s2", f.name[:len(f.name)-1], f.name + "_"} {
			wantFault(t, in("let x = self.@"+near+";"), api.ErrCall)
		}
	}
	for _, name := range []string{"wings", "self", "me", "hit", "move", "next", "zone", "deck", "cost", "tag", "x"} {
		for _, s := range samples() {
			wantFault(t, in("let x = "+s.src+".@"+name+";"), api.ErrCall)
		}
	}
	wantFault(t, in("let power2 = 1; let x = self.@power2;"), api.ErrCall)
}

// argument: what stands as one; fits: the letters that take it.
type argument struct {
	src, marked, fits string
}

func arguments(alsoWords bool) []argument {
	var l []argument
	for _, s := range samples() {
		l = append(l, argument{s.src, s.marked(), "-ibcpzl"[s.kind : s.kind+1]})
	}
	if alsoWords {
		l = append(l, argument{"hand", "@hand", "w"}, argument{`"beast"`, `@"beast"`, "t"}, argument{`""`, `@""`, "t"})
	}
	return l
}

// fitting is what may stand there.
func fitting(letter byte) string {
	return map[byte]string{'i': "2", 'b': "false", 'c': "self", 'p': "me", 'z': "self.place", 'l': list, 'w': "grave", 't': `"x"`}[letter]
}

func fittingAll(takes string) []string {
	var l []string
	for i := range len(takes) {
		l = append(l, fitting(takes[i]))
	}
	return l
}

// written is a call with these arguments, as a statement of its own or behind a let.
func written(e entry, args []string, at string) string {
	call := at + e.name + "(" + strings.Join(args, ", ") + ");"
	if e.tells == 0 {
		return in(call)
	}
	return in("let x = " + call)
}

func holdArguments(t *testing.T, e entry, alsoWords bool) {
	t.Helper()
	for i := range len(e.takes) {
		for _, a := range arguments(alsoWords) {
			args := fittingAll(e.takes)
			if a.fits == e.takes[i:i+1] {
				args[i] = a.src
				wantOK(t, written(e, args, ""))
				continue
			}
			args[i] = a.marked
			wantFault(t, written(e, args, ""), api.ErrType)
			for j := i + 1; j < len(args); j++ {
				args[j] = "wave(x)"
			}
			wantFault(t, written(e, args, ""), api.ErrType)
		}
		args := fittingAll(e.takes)
		args[i] = "@y"
		why := api.ErrName
		if e.takes[i] == 'w' || e.takes[i] == 't' {
			why = api.ErrType // it is not gone through
		}
		wantFault(t, written(e, args, ""), why)
	}
}

func holdCalls(t *testing.T, table string, op int8) {
	t.Helper()
	for number, e := range entries(table) {
		d := wantOK(t, written(e, fittingAll(e.takes), ""))
		a := d[0].Able[0].Tree
		call := 1
		if op == api.TCall {
			call = 2
			wantTold(t, e.name+"("+strings.Join(fittingAll(e.takes), ", ")+")", e.tells)
		}
		if n := a[call]; n.Op != op || n.N != int64(number) || n.M != 0 || n.Kind != e.tells || n.Text != "" || n.Kids != len(e.takes) {
			t.Errorf("P13.1: %s: %v", e.name, n)
		}
		for _, args := range [][]string{nil, {"wave(x)"}, {"me"}, {"self", "1"}, {"wave()", "x"}, {"self", "self.place", "x"}, {"1", "2", "3", "4"}} {
			if len(args) != len(e.takes) {
				wantFault(t, written(e, args, "@"), api.ErrArgs)
			}
		}
		holdArguments(t, e, op == api.TCall)
		for _, near := range []string{e.name + "s2", e.name[:len(e.name)-1] + "_", "x" + e.name} {
			wantFault(t, written(entry{near, e.takes, e.tells}, fittingAll(e.takes), "@"), api.ErrCall)
			wantFault(t, written(entry{near, e.takes, e.tells}, nil, "@"), api.ErrCall)
		}
	}
}

func TestFunctions(t *testing.T) {
	holdCalls(t, funcTable, api.TCall)
	for _, f := range entries(doTable) {
		if f.name != "hit" && f.name != "draw" {
			wantFault(t, in("let x = @"+f.name+"("+strings.Join(fittingAll(f.takes), ", ")+");"), api.ErrCall)
		}
	}
	for _, name := range []string{"life", "cards", "owner", "wave", "let2", "count"} {
		wantFault(t, in("let x = @"+name+"(self);"), api.ErrCall)
	}
	// A variable is no function, though it has the name of one, and the other way round.
	wantFault(t, in("let f = 1; let x = @f(1);"), api.ErrCall)
	wantFault(t, in("let x = @next;"), api.ErrName)
}

func TestEffects(t *testing.T) {
	holdCalls(t, doTable, api.TDo)
	for _, f := range entries(funcTable) {
		if !strings.ContainsAny(f.takes, "wt") {
			wantFault(t, in("@"+f.name+"("+strings.Join(fittingAll(f.takes), ", ")+");"), api.ErrCall)
		}
	}
	for _, name := range []string{"zone", "is", "life", "cards", "wave", "count"} {
		wantFault(t, in("@"+name+"(self);"), api.ErrCall)
		wantFault(t, in("@"+name+"();"), api.ErrCall)
	}
	wantFault(t, in("let f = 1; @f(1);"), api.ErrCall)
}

// What is assigned is of the variable's kind.
func TestKindsOfVariables(t *testing.T) {
	for _, s := range samples() {
		for _, other := range samples() {
			if s.kind == other.kind {
				wantOK(t, in("let x = "+s.src+"; x = "+other.src+"; if true { x = x; }"))
			} else {
				wantFault(t, in("let x = "+s.src+"; x = "+other.marked()+"; wave();"), api.ErrType)
				wantFault(t, in("let x = "+s.src+"; repeat 2 as i { x = "+other.marked()+"; }"), api.ErrType)
			}
		}
		wantTold(t, s.src, s.kind)
	}
	// What repeat, each and choose declare is an int, a card, a card.
	wantOK(t, in("repeat 2 as i { hit(self, i); } each c in "+list+" { hit(c, 1); } choose c in "+list+" { hit(c, 1); }"))
	wantFault(t, in("repeat 2 as i { draw(@i); }"), api.ErrType)
	wantFault(t, in("each c in "+list+" { draw(@c); }"), api.ErrType)
	wantFault(t, in("choose c in "+list+" { draw(@c); }"), api.ErrType)
	// A name of a variable that is gone may be of another kind.
	wantOK(t, in("if true { let x = 1; x = 2; } if true { let x = me; draw(x); } let x = self; hit(x, 1);"))
	wantFault(t, in("if true { let x = 1; } let x = me; x = @1;"), api.ErrType)
}
