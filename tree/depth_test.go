package tree

import (
	"testing"

	"tableau/api"
)

// wrapped is the expression with the wrapper so often around it.
func wrapped(n int, e []api.Node, wrap func(e []api.Node) []api.Node) []api.Node {
	for range n {
		e = wrap(e)
	}
	return e
}

// ifsBehindElse is a TIf with so many TIfs behind elses.
func ifsBehindElse(n int) []api.Node {
	return wrapped(n, op(api.TIf, op(api.TTrue), block()), func(e []api.Node) []api.Node {
		return op(api.TIf, op(api.TTrue), block(), e)
	})
}

// way: one by which a tree is so deep.
type way struct {
	what string
	deep func(depth int) []api.Node
}

// statementWays are those of blocks and statements, from the depth 3 on.
func statementWays() []way {
	inBlocks := func(wrap func(e []api.Node) []api.Node) func(depth int) []api.Node {
		return func(depth int) []api.Node { return ability(wrapped(depth-1, nil, wrap)) }
	}
	inner := func(e []api.Node) []api.Node {
		if e == nil {
			return block()
		}
		return block(e)
	}
	one := number(1)
	return []way{
		{"blocks of repeats", func(depth int) []api.Node { return ability(nested(depth - 1)) }},
		{"blocks of ifs", inBlocks(func(e []api.Node) []api.Node { return op(api.TIf, one, inner(e)) })},
		{"blocks behind elses", inBlocks(func(e []api.Node) []api.Node { return op(api.TIf, one, block(), inner(e)) })},
		{"blocks of eaches", inBlocks(func(e []api.Node) []api.Node { return named(api.TEach, "x", one, inner(e)) })},
		{"blocks of chooses", inBlocks(func(e []api.Node) []api.Node { return named(api.TChoose, "x", one, inner(e)) })},
		{"blocks behind chooses' elses", inBlocks(func(e []api.Node) []api.Node { return named(api.TChoose, "x", one, block(), inner(e)) })},
		{"ifs behind else", func(depth int) []api.Node { return ability(ifsBehindElse(depth - 2)) }},
		{"a do without kids", func(depth int) []api.Node {
			return ability(wrapped(depth-2, named(api.TDo, "x"), func(e []api.Node) []api.Node { return named(api.TRepeat, "x", block(e)) }))
		}},
		{"a do with kids", func(depth int) []api.Node {
			return ability(named(api.TDo, "hit", one, wrapped(depth-2, one, func(e []api.Node) []api.Node { return op(api.TNeg, e) }), one))
		}},
	}
}

// expressionWays are those of expressions, in a condition.
func expressionWays() []way {
	one := number(1)
	of := func(what string, less int, begin []api.Node, wrap func(e []api.Node) []api.Node) way {
		return way{what, func(depth int) []api.Node { return condition(wrapped(depth+less, begin, wrap)) }}
	}
	l := []way{
		of("nots", 0, one, func(e []api.Node) []api.Node { return op(api.TNot, e) }),
		of("minuses", 0, one, func(e []api.Node) []api.Node { return op(api.TNeg, e) }),
		of("calls without kids within", -1, named(api.TCall, "f"), func(e []api.Node) []api.Node { return named(api.TCall, "f", e) }),
		of("calls with kids", 0, one, func(e []api.Node) []api.Node { return named(api.TCall, "f", op(api.TWord), e, named(api.TText, "")) }),
		of("fields", 1, one, func(e []api.Node) []api.Node { return named(api.TField, "x", e) }),
		of("fields of what stands in parentheses", 0, one, func(e []api.Node) []api.Node {
			return named(api.TField, "x", op(api.TOr, e, one))
		}),
		of("sums in products", 0, one, func(e []api.Node) []api.Node { return op(api.TMul, op(api.TAdd, e, one), one) }),
		of("sums in products, at the right", 0, one, func(e []api.Node) []api.Node { return op(api.TMul, one, op(api.TSub, one, e)) }),
	}
	for o := api.TOr; o <= api.TRem; o++ {
		// Comparisons are no rows: the left one, too, stands in parentheses.
		what := "the mark at the left"
		l = append(l, of(what, 1, one, func(e []api.Node) []api.Node { return op(o, e, one) }))
		what = "the mark at the right"
		l = append(l, of(what, 1, one, func(e []api.Node) []api.Node { return op(o, one, e) }))
	}
	return l
}

func TestDepthsByEachWay(t *testing.T) {
	for _, w := range append(statementWays(), expressionWays()...) {
		for _, depth := range []int{3, 4, 63, 64, 65, 66, 200} {
			l := w.deep(depth)
			want := api.OK
			if depth > 64 {
				want = api.ErrDepth
			}
			if e, at := Check(l); e != want || at != 0 {
				t.Errorf("P9.1: %s, %d deep: %d, %d; not %d, 0", w.what, depth, e, at, want)
			}
			if d := Depth(l); d != depth {
				t.Errorf("P9.3: %s: %d deep, not %d", w.what, d, depth)
			}
			if got := Weight(l); got != len(l)-3 {
				t.Errorf("P9.3: %s, %d deep: weight %d, not %d", w.what, depth, got, len(l)-3)
			}
			l[len(l)-1].M = 1
			refused(t, w.what+", with a fault at its end", l, len(l)-1)
		}
	}
}

func TestSmallDepths(t *testing.T) {
	x, y, z, u := named(api.TName, "x"), named(api.TName, "y"), number(3), op(api.TTrue)
	sum := func(a, b []api.Node) []api.Node { return op(api.TAdd, a, b) }
	less := func(a, b []api.Node) []api.Node { return op(api.TSub, a, b) }
	times := func(a, b []api.Node) []api.Node { return op(api.TMul, a, b) }
	field := func(e []api.Node) []api.Node { return named(api.TField, "f", e) }
	call := func(kids ...[]api.Node) []api.Node { return named(api.TCall, "f", kids...) }
	not := func(e []api.Node) []api.Node { return op(api.TNot, e) }
	neg := func(e []api.Node) []api.Node { return op(api.TNeg, e) }
	for _, c := range []struct {
		source string
		e      []api.Node
		depth  int // above the block's, where that is greater
	}{
		{"x", x, 0}, {"x + y", sum(x, y), 0}, {"x - y + 3", sum(less(x, y), z), 1}, {"x - y + 3 - u", less(sum(less(x, y), z), u), 2},
		{"x + (y - 3)", sum(x, less(y, z)), 1}, {"x + y + (3 - u)", sum(sum(x, y), less(z, u)), 2}, {"x + y * 3 * u", sum(x, times(times(y, z), u)), 1},
		{"x * y * 3 + u", sum(times(times(x, y), z), u), 1}, {"x * y * 3 + y * 3 * u", sum(times(times(x, y), z), times(times(y, z), u)), 1},
		{"x + y + x * y * 3", sum(sum(x, y), times(times(x, y), z)), 2},
		{"(x + y) * 3", times(sum(x, y), z), 1}, {"(x + y + 3) * u", times(sum(sum(x, y), z), u), 2}, {"x * y * (3 + u)", times(times(x, y), sum(z, u)), 2},
		{"x.f", field(x), 0}, {"x.f.f", field(field(x)), 1}, {"(x + y).f", field(sum(x, y)), 1}, {"(x + y).f.f", field(field(sum(x, y))), 1},
		{"(x.f.f + y).f.f.f", field(field(field(sum(field(field(x)), y)))), 2}, {"x + y + x.f.f", sum(sum(x, y), field(field(x))), 2},
		{"f()", call(), 1}, {"f(x)", call(x), 1}, {"f(x, y + 3 + u)", call(x, sum(sum(y, z), u)), 2}, {"f(f())", call(call()), 2}, {"f().f.f", field(field(call())), 1}, {"f(f()).f.f", field(field(call(call()))), 2},
		{"!x", not(x), 1}, {"!!x", not(not(x)), 2}, {"-x", neg(x), 1}, {"-(x + y)", neg(sum(x, y)), 2}, {"-x.f.f", neg(field(field(x))), 2}, {"(-x).f.f", field(field(neg(x))), 2},
		{"!x + y", not(sum(x, y)), 1}, {"(!x) + y", sum(not(x), y), 2}, {"!(-x)", not(neg(x)), 2}, {"-(!x)", neg(not(x)), 3},
		{"x == y", op(api.TEq, x, y), 0}, {"(x == y) != 3", op(api.TNe, op(api.TEq, x, y), z), 1}, {"x < !y", op(api.TLt, x, not(y)), 2},
		{"x && y || 3 && u", op(api.TOr, op(api.TAnd, x, y), op(api.TAnd, z, u)), 0}, {"x || y && 3 && u", op(api.TOr, x, op(api.TAnd, op(api.TAnd, y, z), u)), 1},
		{"(x || y) && 3", op(api.TAnd, op(api.TOr, x, y), z), 1}, {"x && !y", op(api.TAnd, x, not(y)), 1},
	} {
		if got := Depth(condition(c.e)); got != max(1, c.depth) {
			t.Errorf("P9.3: when %s {}: depth %d, not %d", c.source, got, max(1, c.depth))
		}
		if got := Depth(ability(named(api.TLet, "x", c.e))); got != 1+c.depth {
			t.Errorf("P9.3: let x = %s: depth %d, not %d", c.source, got, 1+c.depth)
		}
		if got := Depth(ability(named(api.TDo, "hit", x, c.e))); got != 2+c.depth {
			t.Errorf("P9.3: hit(x, %s): depth %d, not %d", c.source, got, 2+c.depth)
		}
	}
}

func TestDepthsOfStatements(t *testing.T) {
	e := op(api.TNot, op(api.TTrue))
	for _, c := range []struct {
		what  string
		list  []api.Node
		depth int
	}{
		{"no card", op(api.TPack), 0}, {"an empty card", card(), 0}, {"lines alone", card(op(api.TCost), named(api.TTag, "a")), 0},
		{"an empty ability", ability(), 1}, {"a stop", ability(op(api.TStop)), 1}, {"a do without kids", ability(named(api.TDo, "x")), 2},
		{"an if", ability(op(api.TIf, e, block())), 2}, {"an else", ability(op(api.TIf, e, block(), block())), 2},
		{"an if behind an else", ability(op(api.TIf, e, block(), op(api.TIf, e, block()))), 3},
		{"an else behind an if behind an else", ability(op(api.TIf, e, block(), op(api.TIf, e, block(), block()))), 3},
		{"an if within an else's block", ability(op(api.TIf, e, block(), block(op(api.TIf, e, block())))), 3},
		{"two ifs behind elses", ability(op(api.TIf, e, block(), op(api.TIf, e, block(), op(api.TIf, e, block())))), 4},
		{"an if's block that is deeper than what is behind the else", ability(op(api.TIf, e, block(op(api.TIf, e, block(op(api.TStop)))), op(api.TIf, e, block()))), 3},
		{"the condition of an if behind an else", ability(op(api.TIf, e, block(), op(api.TIf, op(api.TNot, op(api.TNot, e)), block()))), 5},
		{"a choose's else", ability(named(api.TChoose, "x", e, block(), block())), 2},
		{"the deeper one of two abilities", card(on(block(named(api.TDo, "x"))), on(block())), 2},
		{"the deeper one of two cards", op(api.TPack, named(api.TCard, "", on(block())), named(api.TCard, "", on(block(nested(2))))), 3},
	} {
		if got := Depth(c.list); got != c.depth {
			t.Errorf("P9.3: %s: depth %d, not %d", c.what, got, c.depth)
		}
	}
}

func TestWeights(t *testing.T) {
	one, two := on(block()), on(op(api.TTrue), block(op(api.TStop)))
	for _, c := range []struct {
		what   string
		list   []api.Node
		weight int
	}{
		{"no card", op(api.TPack), 0}, {"no ability", card(op(api.TCost), op(api.TPower)), 0}, {"one", card(one), 1}, {"another", card(two), 3},
		{"two", card(one, two), 3}, {"the other way round", card(two, one), 3}, {"lines between", card(op(api.TCost), two, op(api.TCost), one, op(api.TCost)), 3},
		{"two cards", op(api.TPack, named(api.TCard, "", two), named(api.TCard, "", one, one, one, one)), 3},
	} {
		if got := Weight(c.list); got != c.weight {
			t.Errorf("P9.3: %s: weight %d, not %d", c.what, got, c.weight)
		}
	}
}

// TestLongAndDeepLists: neither calls within calls nor rows counted again and again.
func TestLongAndDeepLists(t *testing.T) {
	const n = 1 << 16
	left := make([]api.Node, 0, 2*n+9)
	left = append(left, api.Node{Op: api.TPack, Kids: 1}, api.Node{Op: api.TCard, Kids: 1}, api.Node{Op: api.TOn, Kids: 2})
	for range n {
		left = append(left, api.Node{Op: api.TSub, Kids: 2})
	}
	for range n + 1 {
		left = append(left, api.Node{Op: api.TTrue})
	}
	left = append(left, api.Node{Op: api.TBlock})
	if e, at := Check(left); e != api.ErrDepth || at != 0 {
		t.Errorf("P9.1: a row of %d marks: %d, %d", n, e, at)
	}
	if d, w := Depth(left), Weight(left); d != n-1 || w != 2*n+2 {
		t.Errorf("P9.3: a row of %d marks: depth %d, weight %d", n, d, w)
	}
	if Behind(left, 3) != len(left)-1 || len(Kids(left, 3)) != 2 {
		t.Errorf("P9.2: a row of %d marks", n)
	}
}
