package fold_test

import (
	"fmt"
	"math"
	"math/rand"
	"testing"

	"tableau/api"
	"tableau/fold"
)

const (
	most  = math.MaxInt64
	least = math.MinInt64
)

func wantInt(t *testing.T, what string, l []api.Node, n int64) {
	t.Helper()
	wantValue(t, what, l, api.Value{Kind: api.KInt, N: n}, true)
}

func wantBool(t *testing.T, what string, l []api.Node, b bool) {
	t.Helper()
	v := api.Value{Kind: api.KBool}
	if b {
		v.N = 1
	}
	wantValue(t, what, l, v, true)
}

func wantNone(t *testing.T, what string, l []api.Node) {
	t.Helper()
	wantValue(t, what, l, api.Value{}, false)
}

func wantValue(t *testing.T, what string, l []api.Node, v api.Value, ok bool) {
	t.Helper()
	got, yes := fold.Value(l)
	if got.Kind != v.Kind || got.N != v.N || len(got.List) > 0 || yes != ok {
		t.Errorf("P15.1: %s: %+v, %v, not %+v, %v", what, got, yes, v, ok)
	}
}

// wantAccount holds Value against the account.
func wantAccount(t *testing.T, l []api.Node) outcome {
	t.Helper()
	x, ok := accountOf(l)
	if !ok || x.n == nil {
		wantNone(t, fmt.Sprint(l), l)
		return outcome{}
	}
	wantValue(t, fmt.Sprint(l), l, api.Value{Kind: x.kind, N: x.n.Int64()}, true)
	return x
}

func TestExamplesOfValue(t *testing.T) {
	for src, n := range map[string]int64{
		"2 * 3 + -1":              5,
		"9223372036854775807 + 1": most, "-9223372036854775807 - 2": least, "abs(-3)": 3, "min(2, 1)": 1,
	} {
		wantInt(t, src, expr(t, src, api.KInt), n)
	}
	wantBool(t, "!(1 < 2)", expr(t, "!(1 < 2)", api.KBool), false)
	wantBool(t, "false && 1 / 0 == 0", expr(t, "false && 1 / 0 == 0", api.KBool), false)
	wantNone(t, "1 / 0", expr(t, "1 / 0", api.KInt))
	wantNone(t, "true && 1 % 0 == 0", expr(t, "true && 1 % 0 == 0", api.KBool))
	wantNone(t, "self.power", expr(t, "self.power", api.KInt))
	wantNone(t, "a TNum with the Kind KBool", []api.Node{{Op: api.TNum, Kind: api.KBool}})
	wantNone(t, "nothing", nil)
	wantNone(t, "two TTrue", append(boolean(true), boolean(true)...))
}

// num is a number of any sign as nodes that are a constant expression.
func num(n int64) []api.Node {
	if n == least {
		return ints(api.TSub, ints(api.TSub, whole(0), whole(most)), whole(1))
	}
	if n < 0 {
		return ints(api.TSub, whole(0), whole(-n))
	}
	return whole(n)
}

func TestEachOperatorOfInts(t *testing.T) {
	for op, l := range map[int8][][3]int64{
		api.TAdd: {{1, 2, 3}, {-1, -2, -3}, {most, 1, most}, {most, least, -1}, {least, -1, least}, {least, least, least}, {0, least, least}},
		api.TSub: {{1, 2, -1}, {least, 1, least}, {most, -1, most}, {0, least, most}, {-1, least, most}, {least, least, 0}, {-most, 1, least}, {-most, 2, least}},
		api.TMul: {{3, -4, -12}, {most, 2, most}, {least, 2, least}, {least, -1, most}, {-1, least, most}, {1 << 32, 1 << 31, most}, {1 << 32, -1 << 31, least}, {0, least, 0}},
		api.TDiv: {{7, 2, 3}, {-7, 2, -3}, {7, -2, -3}, {-7, -2, 3}, {least, -1, most}, {least, 1, least}, {most, most, 1}, {0, 5, 0}, {1, least, 0}},
		api.TRem: {{7, 2, 1}, {-7, 2, -1}, {7, -2, 1}, {-7, -2, -1}, {least, -1, 0}, {least, most, -1}, {most, least, most}, {0, 5, 0}},
	} {
		for _, x := range l {
			wantInt(t, fmt.Sprint(x, " by the operator ", op), ints(op, num(x[0]), num(x[1])), x[2])
		}
	}
	for n, want := range map[int64]int64{0: 0, 5: -5, -5: 5, most: -most, -most: most, least: most} {
		wantInt(t, fmt.Sprint("- ", n), ints(api.TNeg, num(n)), want)
		wantInt(t, fmt.Sprint("abs ", n), call(6, num(n)), max(n, want))
	}
	for _, x := range [][2]int64{{1, 2}, {-1, 2}, {3, 3}, {least, most}, {-most, least}, {0, -1}} {
		for range 2 {
			wantInt(t, fmt.Sprint("min ", x), call(7, num(x[0]), num(x[1])), min(x[0], x[1]))
			wantInt(t, fmt.Sprint("max ", x), call(8, num(x[0]), num(x[1])), max(x[0], x[1]))
			x[0], x[1] = x[1], x[0]
		}
	}
}

func TestEachOperatorOfBools(t *testing.T) {
	for _, x := range [][2]int64{{1, 2}, {2, 1}, {0, 0}, {-1, 1}, {least, most}, {most, least}, {most, most}, {least, least}, {least, -most}} {
		a, b := num(x[0]), num(x[1])
		for op, want := range map[int8]bool{
			api.TEq: x[0] == x[1], api.TNe: x[0] != x[1], api.TLt: x[0] < x[1], api.TLe: x[0] <= x[1], api.TGt: x[0] > x[1], api.TGe: x[0] >= x[1],
		} {
			wantBool(t, fmt.Sprint(x, " by the operator ", op), bools(op, a, b), want)
		}
	}
	for i := range 4 {
		a, b := i&1 > 0, i&2 > 0
		for op, want := range map[int8]bool{api.TOr: a || b, api.TAnd: a && b, api.TEq: a == b, api.TNe: a != b} {
			wantBool(t, fmt.Sprint(a, b, " by the operator ", op), bools(op, boolean(a), boolean(b)), want)
		}
		wantBool(t, fmt.Sprint("! ", a), bools(api.TNot, boolean(a)), !a)
		wantBool(t, "a bool", boolean(a), a)
	}
	for _, op := range []int8{api.TLt, api.TLe, api.TGt, api.TGe, api.TAdd, api.TSub, api.TMul, api.TDiv, api.TRem} {
		wantNone(t, "bools that are held against each other as ints are", bools(op, boolean(true), boolean(true)))
		wantNone(t, "bools that are reckoned with", ints(op, boolean(true), boolean(true)))
	}
}

// TestByNought has divisions by 0 that are come to, and such as are not.
func TestByNought(t *testing.T) {
	for _, op := range []int8{api.TDiv, api.TRem} {
		for _, a := range []int64{0, 1, -1, most, least} {
			wantNone(t, "by 0", ints(op, num(a), whole(0)))
			wantNone(t, "by what is 0", ints(op, num(a), ints(api.TSub, whole(3), whole(3))))
			wantInt(t, "0 by what is not", ints(op, whole(0), whole(3)), 0)
		}
		lost := ints(op, whole(1), whole(0))
		odd := bools(api.TEq, lost, whole(0))
		for what, l := range map[string][]api.Node{
			"a sign": ints(api.TNeg, lost), "abs": call(6, lost), "min": call(7, lost, whole(1)), "max": call(8, whole(1), lost), "min of two": call(7, lost, lost),
			"a sum": ints(api.TAdd, lost, whole(1)), "a sum's right side": ints(api.TAdd, whole(1), lost), "a product by 0": ints(api.TMul, whole(0), lost), "both sides": ints(api.TMul, lost, lost),
			"a division of it": ints(api.TDiv, lost, whole(1)), "a division by it": ints(api.TRem, whole(1), lost), "less": bools(api.TLt, lost, whole(1)), "as much": bools(api.TGe, whole(1), lost), "not the same": bools(api.TNe, whole(0), lost),
			"not": bools(api.TNot, odd), "true and": bools(api.TAnd, boolean(true), odd), "false or": bools(api.TOr, boolean(false), odd), "and false": bools(api.TAnd, odd, boolean(false)), "or true": bools(api.TOr, odd, boolean(true)),
			"the same bool": bools(api.TEq, odd, boolean(true)), "another bool": bools(api.TNe, boolean(true), odd), "two": bools(api.TAnd, odd, odd),
		} {
			wantNone(t, what+" come to by 0", l)
		}
		wantBool(t, "false and by 0", bools(api.TAnd, boolean(false), odd), false)
		wantBool(t, "true or by 0", bools(api.TOr, boolean(true), odd), true)
		wantBool(t, "what is not true and by 0", bools(api.TNot, bools(api.TAnd, bools(api.TNot, boolean(true)), bools(api.TNot, odd))), true)
		wantNone(t, "false and an int by 0", bools(api.TAnd, boolean(false), lost))
		wantNone(t, "true or an int by 0", bools(api.TOr, boolean(true), lost))
		wantNone(t, "a number by 0 that is a bool", bools(op, whole(1), whole(0)))
		wantNone(t, "the same, ints and bools", bools(api.TEq, lost, odd))
	}
}

// specimens is an expression for each node that a constant one may have.
func specimens() map[string][]api.Node {
	one, yes := whole(1), boolean(true)
	m := map[string][]api.Node{
		"TNum": one, "TTrue": yes, "TFalse": boolean(false), "TNot": bools(api.TNot, yes), "TNeg": ints(api.TNeg, one),
		"TOr": bools(api.TOr, yes, yes), "TAnd": bools(api.TAnd, yes, yes), "TEq of ints": bools(api.TEq, one, one), "TEq of bools": bools(api.TEq, yes, yes), "TNe of ints": bools(api.TNe, one, one), "TNe of bools": bools(api.TNe, yes, yes),
		"abs": call(6, one), "min": call(7, one, one), "max": call(8, one, one),
	}
	for op := api.TLt; op <= api.TGe; op++ {
		m[fmt.Sprint("the node ", op)] = bools(op, one, one)
	}
	for op := api.TAdd; op <= api.TRem; op++ {
		m[fmt.Sprint("the node ", op)] = ints(op, one, one)
	}
	return m
}

// TestEachFieldOfEachNode changes each field of each node of a constant expression, and the kids' number.
func TestEachFieldOfEachNode(t *testing.T) {
	changes := map[string]func(n *api.Node){
		"M":        func(n *api.Node) { n.M = 1 },
		"M below":  func(n *api.Node) { n.M = -1 },
		"a text":   func(n *api.Node) { n.Text = "x" },
		"At below": func(n *api.Node) { n.At = -1 },
		"At least": func(n *api.Node) { n.At = math.MinInt },
		"no kind":  func(n *api.Node) { n.Kind = api.KNone },
		"a card":   func(n *api.Node) { n.Kind = api.KCard },
		"a list":   func(n *api.Node) { n.Kind = api.KList },
		"no such":  func(n *api.Node) { n.Kind = -1 },
		"other":    func(n *api.Node) { n.Kind = api.KInt + api.KBool - n.Kind },
		"a kid":    func(n *api.Node) { n.Kids++ },
		"no kid":   func(n *api.Node) { n.Kids-- },
		"few":      func(n *api.Node) { n.Kids = -1 },
		"fewer":    func(n *api.Node) { n.Kids = math.MinInt },
		"many":     func(n *api.Node) { n.Kids = math.MaxInt },
	}
	for what, l := range specimens() {
		if _, ok := fold.Value(l); !ok {
			t.Errorf("P15.1: %s: no value", what)
		}
		for at := range l {
			far := append([]api.Node{}, l...)
			far[at].At = math.MaxInt
			if _, ok := fold.Value(far); !ok {
				t.Errorf("P15.1: %s: no value with a place that is far away", what)
			}
			for field, change := range changes {
				odd := append([]api.Node{}, l...)
				change(&odd[at])
				wantNone(t, what+", "+field, odd)
			}
		}
		wantNone(t, what+", one node missing", l[:len(l)-1])
		wantNone(t, what+", one more behind", append(append([]api.Node{}, l...), boolean(true)...))
		wantNone(t, what+", twice", append(append([]api.Node{}, l...), l...))
	}
}

// TestNumbersOfNodes changes N, which only a number and a call have.
func TestNumbersOfNodes(t *testing.T) {
	for what, l := range specimens() {
		for _, n := range []int64{least, -8, -1, 1, 2, 3, 5, 6, 7, 8, 9, 1 << 32, 1<<32 + 6, 256 + 6, most} {
			odd := append([]api.Node{}, l...)
			odd[0].N = n
			switch {
			case what == "TNum" && n >= 0:
				wantInt(t, "a number", odd, n)
			case l[0].Op == api.TCall && len(l) == 2 && n == 6, l[0].Op == api.TCall && len(l) == 3 && (n == 7 || n == 8):
				wantInt(t, "a call", odd, 1)
			default:
				wantNone(t, fmt.Sprint(what, ", N ", n), odd)
			}
		}
	}
	wantNone(t, "a call of 0", call(0, whole(1)))
	wantNone(t, "min of one", call(7, whole(1)))
	wantNone(t, "abs of two", call(6, whole(1), whole(1)))
	wantNone(t, "abs of none", call(6))
	wantNone(t, "abs of a bool", call(6, boolean(true)))
	wantNone(t, "max of an int and a bool", call(8, whole(1), boolean(true)))
}

// TestEachNodeThatIsNone has nodes in the place of an int, of a bool, and of the whole.
func TestEachNodeThatIsNone(t *testing.T) {
	constant := map[int8]bool{}
	for _, l := range specimens() {
		constant[l[0].Op] = true
	}
	for o := math.MinInt8; o <= math.MaxInt8; o++ {
		if constant[int8(o)] {
			continue
		}
		for kids := range 4 {
			for _, kind := range []int8{api.KNone, api.KInt, api.KBool, api.KCard} {
				var below [][]api.Node
				for range kids {
					below = append(below, whole(1))
				}
				n := op(api.Node{Op: int8(o), Kind: kind}, below...)
				what := fmt.Sprint("the node ", o, " with ", kids, " kids, of the kind ", kind)
				wantNone(t, what, n)
				wantNone(t, what+" behind a sign", ints(api.TNeg, n))
				wantNone(t, what+" behind !", bools(api.TNot, n))
				wantNone(t, what+" where it isn't come to", bools(api.TAnd, boolean(false), n))
			}
		}
	}
}

// TestEachNode has each node with few kids, held against the account.
func TestEachNode(t *testing.T) {
	kids := [][][]api.Node{nil}
	for _, a := range [][]api.Node{whole(3), boolean(true), ints(api.TDiv, whole(1), whole(0))} {
		kids = append(kids, [][]api.Node{a}, [][]api.Node{a, whole(1), a})
		for _, b := range [][]api.Node{whole(2), boolean(false)} {
			kids = append(kids, [][]api.Node{a, b})
		}
	}
	some := map[int8]int{}
	for o := math.MinInt8; o <= math.MaxInt8; o++ {
		for _, n := range []int64{-1, 0, 1, 2, 5, 6, 7, 8, 9} {
			for kind := range int8(api.KList + 1) {
				for _, below := range kids {
					l := op(api.Node{Op: int8(o), Kind: kind, N: n}, below...)
					if x := wantAccount(t, l); x.n != nil {
						some[int8(o)]++
					}
				}
			}
		}
	}
	for what, l := range specimens() {
		if some[l[0].Op] == 0 {
			t.Errorf("P15.1: %s never has a value", what)
		}
	}
}

// letters is nodes, as they may stand in constant expressions and as they may not.
func letters() []api.Node {
	l := []api.Node{
		{Op: api.TNum, Kind: api.KInt}, {Op: api.TNum, Kind: api.KInt, N: 3}, {Op: api.TNum, Kind: api.KInt, N: most}, {Op: api.TNum, Kind: api.KInt, N: -1}, {Op: api.TNum, Kind: api.KBool},
		{Op: api.TTrue, Kind: api.KBool}, {Op: api.TFalse, Kind: api.KBool}, {Op: api.TTrue, Kind: api.KInt}, {Op: api.TName, Kind: api.KInt, N: 2},
		{Op: api.TNot, Kind: api.KBool, Kids: 1}, {Op: api.TNeg, Kind: api.KInt, Kids: 1}, {Op: api.TNeg, Kind: api.KInt, Kids: 2}, {Op: api.TCall, Kind: api.KInt, N: 6, Kids: 1},
		{Op: api.TCall, Kind: api.KInt, N: 2, Kids: 1}, {Op: api.TBlock},
	}
	for _, n := range []int64{7, 8} {
		l = append(l, api.Node{Op: api.TCall, Kind: api.KInt, N: n, Kids: 2})
	}
	for op := api.TOr; op <= api.TRem; op++ {
		kind := api.KBool
		if op >= api.TAdd {
			kind = api.KInt
		}
		l = append(l, api.Node{Op: op, Kind: kind, Kids: 2})
	}
	return l
}

func TestAllSmallLists(t *testing.T) {
	some := 0
	l := letters()
	for _, a := range l {
		wantAccount(t, []api.Node{a})
		for _, b := range l {
			wantAccount(t, []api.Node{a, b})
			for _, c := range l {
				if x := wantAccount(t, []api.Node{a, b, c}); x.n != nil {
					some++
				}
			}
		}
	}
	if some != 141 {
		t.Errorf("P15.1: %d lists of three nodes have a value, not 141", some)
	}
}

// constants: makes constant expressions by chance.
type constants struct{ *rand.Rand }

func (c constants) of(kind int8, deep int) []api.Node {
	if kind == api.KBool {
		return c.truth(deep)
	}
	if deep <= 0 || c.Intn(5) == 0 {
		return whole([]int64{0, 0, 1, 2, 3, most, most - 1, c.Int63() >> c.Intn(63)}[c.Intn(8)])
	}
	a := c.of(api.KInt, deep-1)
	switch c.Intn(10) {
	case 0, 1, 2:
		return ints(api.TNeg, a)
	case 3:
		return call(6, a)
	case 4:
		return call(int64(7+c.Intn(2)), a, c.of(api.KInt, deep-1))
	}
	return ints(api.TAdd+int8(c.Intn(5)), a, c.of(api.KInt, deep-1))
}

func (c constants) truth(deep int) []api.Node {
	if deep <= 0 {
		return boolean(c.Intn(2) == 0)
	}
	op, kind := api.TOr+int8(c.Intn(8)), api.KInt
	switch op {
	case api.TOr, api.TAnd:
		kind = api.KBool
	case api.TEq, api.TNe:
		kind = []int8{api.KInt, api.KBool}[c.Intn(2)]
	}
	if c.Intn(5) == 0 {
		return bools(api.TNot, c.truth(deep-1))
	}
	return bools(op, c.of(kind, deep-1), c.of(kind, deep-1))
}

func TestValuesByChance(t *testing.T) {
	c := constants{rand.New(rand.NewSource(1))}
	counts := map[string]int{}
	for i := range 30000 {
		l := c.of(api.KInt+int8(i%2), c.Intn(7))
		x := wantAccount(t, l)
		switch {
		case x.n == nil:
			counts["none"]++
		case x.kind == api.KInt && x.n.Int64() == least:
			counts["least"]++
		case x.kind == api.KInt && x.n.Int64() == most:
			counts["most"]++
		}
		n := &l[c.Intn(len(l))]
		switch c.Intn(8) {
		case 0:
			n.Op += int8(c.Intn(3) - 1)
		case 1:
			n.Kids += c.Intn(3) - 1
		case 2:
			n.N += int64(c.Intn(3) - 1)
		case 3:
			n.Kind = int8(c.Intn(4))
		case 4:
			n.At = c.Int() - c.Int()
		case 5:
			l = l[:c.Intn(len(l))]
		case 6:
			l = append(l, l[c.Intn(len(l)):]...)
		}
		wantAccount(t, l)
	}
	for _, what := range []string{"none", "least", "most"} {
		if counts[what] < 100 {
			t.Errorf("%s: %d: too few", what, counts[what])
		}
	}
}

// TestDeepAndLongLists has expressions that are nested deeper, and are longer, than any ability's may be.
func TestDeepAndLongLists(t *testing.T) {
	const many = 1 << 16
	signs, sums, right := []api.Node{}, []api.Node{}, []api.Node{}
	for range many {
		signs = append(signs, api.Node{Op: api.TNeg, Kind: api.KInt, Kids: 1})
		sums = append(sums, api.Node{Op: api.TAdd, Kind: api.KInt, Kids: 2})
		right = append(right, whole(1)...)
		right = append(right, api.Node{Op: api.TSub, Kind: api.KInt, Kids: 2})
	}
	wantInt(t, "signs", append(signs, whole(7)...), 7)
	wantNone(t, "signs alone", signs)
	wantInt(t, "sums on the right", append(append([]api.Node{{Op: api.TSub, Kind: api.KInt, Kids: 2}}, right...), append(whole(1), whole(5)...)...), -4)
	for range many + 1 {
		sums = append(sums, whole(2)...)
	}
	wantInt(t, "sums on the left", sums, 2*many+2)
	wantNone(t, "sums on the left, one too few", sums[:len(sums)-1])
	wantNone(t, "numbers alone", sums[many:])
}
