package rows

import (
	"math"
	"math/rand"
	"slices"
	"testing"
)

// roomy is the list with spare room behind it, in which 77 stands.
func roomy(l []int, spare int) []int {
	whole := append(slices.Clone(l), slices.Repeat([]int{77}, spare)...)
	return whole[: len(l) : len(l)+spare]
}

// held is what the list and its spare room hold.
func held(l []int) []int {
	return slices.Clone(l[:cap(l)])
}

// spoil fills the list and its spare room.
func spoil(l []int) {
	l = l[:cap(l)]
	for i := range l {
		l[i] = -99
	}
}

// someLists are lists of every length up to 6, with and without spare room, and nothing.
func someLists() [][]int {
	lists := [][]int{nil}
	for n := range 7 {
		l := []int{}
		for i := range n {
			l = append(l, 10+i)
		}
		lists = append(lists, roomy(l, 0), roomy(l, 1), roomy(l, 5))
	}
	return lists
}

func TestCut(t *testing.T) {
	for _, c := range []struct {
		l    []int
		at   int
		want []int
		x    int
		ok   bool
	}{
		{[]int{5, 6, 7}, 1, []int{5, 7}, 6, true},
		{[]int{5, 6, 7}, 0, []int{6, 7}, 5, true},
		{[]int{5, 6, 7}, 2, []int{5, 6}, 7, true},
		{[]int{5, 6, 7}, 3, nil, 0, false},
		{[]int{5, 6, 7}, -1, nil, 0, false},
		{[]int{5, 6, 7}, math.MaxInt, nil, 0, false},
		{[]int{5, 6, 7}, math.MinInt, nil, 0, false},
		{[]int{5}, 0, nil, 5, true},
		{[]int{5}, 1, nil, 0, false},
		{nil, 0, nil, 0, false},
		{nil, -1, nil, 0, false},
		{[]int{}, 0, nil, 0, false},
		{roomy([]int{5, 6}, 3), 2, nil, 0, false},
		{roomy([]int{5, 6}, 3), 4, nil, 0, false},
		{roomy(nil, 3), 0, nil, 0, false},
	} {
		if got, x, ok := Cut(c.l, c.at); !slices.Equal(got, c.want) || x != c.x || ok != c.ok {
			t.Errorf("P4.1: Cut(%v, %d) = %v, %d, %v, not %v, %d, %v", c.l, c.at, got, x, ok, c.want, c.x, c.ok)
		}
	}
}

func TestCutOfOtherKinds(t *testing.T) {
	if got, x, ok := Cut([]string{"a", "b"}, 0); !slices.Equal(got, []string{"b"}) || x != "a" || !ok {
		t.Errorf("P4.1: Cut of texts = %v, %q, %v", got, x, ok)
	}
	if got, x, ok := Cut([]string{"a", "b"}, 2); len(got) != 0 || x != "" || ok {
		t.Errorf("P4.1: Cut of texts beyond = %v, %q, %v", got, x, ok)
	}
	if got, _, ok := Cut(make([]struct{}, 3), 2); len(got) != 2 || !ok {
		t.Errorf("P4.1: Cut of empty things = %d, %v", len(got), ok)
	}
	inner := []int{1}
	_, x, _ := Cut([][]int{nil, inner}, 1)
	if x[0] = 2; inner[0] != 2 {
		t.Error("P4.1: what a thing holds itself is another one")
	}
	if _, x, _ := Cut([]any{1}, 1); x != nil {
		t.Errorf("P4.1: the zero thing is %v", x)
	}
}

func TestPut(t *testing.T) {
	for _, c := range []struct {
		l    []int
		at   int
		want []int
		ok   bool
	}{
		{[]int{5, 7}, 0, []int{6, 5, 7}, true},
		{[]int{5, 7}, 1, []int{5, 6, 7}, true},
		{[]int{5, 7}, 2, []int{5, 7, 6}, true},
		{[]int{5, 7}, 3, nil, false},
		{[]int{5, 7}, -1, nil, false},
		{[]int{5, 7}, math.MaxInt, nil, false},
		{[]int{5, 7}, math.MinInt, nil, false},
		{nil, 0, []int{6}, true},
		{[]int{}, 0, []int{6}, true},
		{nil, 1, nil, false},
		{nil, -1, nil, false},
		{roomy([]int{5, 7}, 4), 3, nil, false},
		{roomy([]int{5, 7}, 4), 2, []int{5, 7, 6}, true},
		{roomy(nil, 4), 1, nil, false},
	} {
		if got, ok := Put(c.l, c.at, 6); !slices.Equal(got, c.want) || ok != c.ok {
			t.Errorf("P4.1: Put(%v, %d, 6) = %v, %v, not %v, %v", c.l, c.at, got, ok, c.want, c.ok)
		}
	}
}

func TestPutAndCutAtEveryPlace(t *testing.T) {
	for _, l := range someLists() {
		for at := -2; at <= len(l)+2; at++ {
			more, ok := Put(l, at, 6)
			if ok != (at >= 0 && at <= len(l)) {
				t.Errorf("P4.1: Put of %d things at %d says %v", len(l), at, ok)
			}
			if !ok {
				continue
			}
			for i := range len(l) + 1 {
				want := 6
				if i < at {
					want = l[i]
				} else if i > at {
					want = l[i-1]
				}
				if len(more) != len(l)+1 || more[i] != want {
					t.Errorf("P4.1: Put(%v, %d, 6) = %v", l, at, more)
				}
			}
			if back, x, ok := Cut(more, at); !slices.Equal(back, l) || x != 6 || !ok {
				t.Errorf("P4.1: Cut of what Put made of %v at %d = %v, %d, %v", l, at, back, x, ok)
			}
		}
	}
}

func TestListsStayAsTheyWere(t *testing.T) {
	for _, l := range someLists() {
		before := held(l)
		for at := -1; at <= len(l)+1; at++ {
			cut, _, _ := Cut(l, at)
			more, _ := Put(l, at, 6)
			again, _ := Put(l, at, 6)
			want := slices.Clone(again)
			spoil(cut)
			spoil(more)
			if !slices.Equal(again, want) {
				t.Errorf("P4.1: what Put made of %v twice shares memory (R5)", l)
			}
			Find(l, 6)
			if !slices.Equal(held(l), before) {
				t.Fatalf("P4.1: %v is %v behind a call, or behind what was done to its answer (R5)", before, held(l))
			}
		}
		if laid, ok := Order(l, increasing(len(l))); !ok || !slices.Equal(laid, l) {
			t.Errorf("P4.3: Order(%v) by itself = %v, %v", l, laid, ok)
		} else if spoil(laid); !slices.Equal(held(l), before) {
			t.Errorf("P4.3: what Order made of %v shares memory with it (R5)", before)
		}
	}
}

func TestFind(t *testing.T) {
	for _, c := range []struct {
		l    []int
		x    int
		want int
	}{
		{[]int{5, 6, 6}, 6, 1}, {[]int{5, 6, 6}, 5, 0}, {[]int{5, 6, 7}, 7, 2}, {[]int{5, 6, 6}, 9, -1}, {[]int{5, 6, 6}, 0, -1},
		{nil, 0, -1}, {[]int{}, 0, -1}, {[]int{0}, 0, 0}, {roomy([]int{5}, 3), 77, -1}, {roomy(nil, 3), 77, -1},
	} {
		if got := Find(c.l, c.x); got != c.want {
			t.Errorf("P4.2: Find(%v, %d) = %d, not %d", c.l, c.x, got, c.want)
		}
	}
	type pair struct {
		n int
		s string
	}
	if got := Find([]pair{{1, "a"}, {2, "b"}, {2, "b"}}, pair{2, "b"}); got != 1 {
		t.Errorf("P4.2: Find of a pair = %d", got)
	}
	if got := Find([]string{"", "a"}, "a"); got != 1 {
		t.Errorf("P4.2: Find of a text = %d", got)
	}
	a, b := new(int), new(int)
	if got := Find([]*int{a, b, b}, b); got != 1 {
		t.Errorf("P4.2: Find of a pointer = %d", got)
	}
}

func TestFindOfFloats(t *testing.T) {
	no := math.NaN()
	for _, c := range []struct {
		l    []float64
		x    float64
		want int
	}{
		{[]float64{no}, no, -1}, {[]float64{no, no, 1}, no, -1}, {[]float64{no, 1, no}, 1, 1},
		{[]float64{1, math.Copysign(0, -1)}, 0, 1}, {[]float64{1, 0}, math.Copysign(0, -1), 1}, {[]float64{math.Inf(-1), math.Inf(1)}, math.Inf(1), 1},
	} {
		if got := Find(c.l, c.x); got != c.want {
			t.Errorf("P4.2: Find(%v, %v) = %d, not %d", c.l, c.x, got, c.want)
		}
	}
	if got := Find([]any{no, "a"}, any(no)); got != -1 {
		t.Errorf("P4.2: Find of what is no number, as anything = %d", got)
	}
}

// What can't be compared is like nothing, and no call panics.
func TestFindOfWhatCannotBeCompared(t *testing.T) {
	type pair struct{ a, b any }
	list, table, call := []int{1}, map[int]int{}, func() {}
	for _, x := range []any{list, table, call, struct{ l []int }{}, [1]any{list}, [0][]int{}, pair{1, list}} {
		for _, l := range [][]any{{x}, {1, x}, {x, 1, x}, {list, table, call, 1, "a", nil}, {nil}, nil} {
			if got := Find(l, x); got != -1 {
				t.Errorf("P4.2: Find of %T in %d things = %d", x, len(l), got)
			}
		}
		if got := Find([]any{x, 1, "a", "a"}, any("a")); got != 2 {
			t.Errorf("P4.2: Find behind %T = %d, not 2", x, got)
		}
		if got := Find([]any{x, nil}, nil); got != 1 {
			t.Errorf("P4.2: Find of nil behind %T = %d, not 1", x, got)
		}
		if got := Find([]pair{{x, 1}, {x, 2}, {1, 2}}, pair{1, 2}); got != 2 {
			t.Errorf("P4.2: Find of a pair behind %T = %d, not 2", x, got)
		}
		if got := Find([]pair{{1, x}, {x, 1}}, pair{x, 1}); got != -1 {
			t.Errorf("P4.2: Find of a pair of %T = %d, not -1", x, got)
		}
	}
}

// increasing is the order of n that leaves all as it is.
func increasing(n int) []int {
	l := make([]int, n)
	for i := range l {
		l[i] = i
	}
	return l
}

// eachList gives every list of n numbers from -1 to n + 1.
func eachList(n int, sofar []int, give func([]int)) {
	if len(sofar) == n {
		give(slices.Clone(sofar))
		return
	}
	for x := -1; x <= n+1; x++ {
		eachList(n, append(slices.Clone(sofar), x), give)
	}
}

func TestOrdersAndOthers(t *testing.T) {
	for n := range 6 {
		orders, times := 0, 1
		for i := range n {
			times *= i + 1
		}
		eachList(n, nil, func(l []int) {
			sorted := slices.Clone(l)
			slices.Sort(sorted)
			is := slices.Equal(sorted, increasing(n))
			if is {
				orders++
			}
			holdOrder(t, l, is)
		})
		if orders != times {
			t.Fatalf("%d orders of %d, not %d", orders, n, times)
		}
	}
}

// holdOrder holds Is, Back and Order of one list of numbers to what the document says.
func holdOrder(t *testing.T, l []int, is bool) {
	t.Helper()
	if got := Is(l); got != is {
		t.Errorf("P4.3: Is(%v) = %v", l, got)
	}
	back, ok := Back(l)
	things := []string{"a", "b", "c", "d", "e"}[:len(l)]
	laid, laidOK := Order(things, l)
	if ok != is || laidOK != is {
		t.Errorf("P4.3: Back(%v) says %v, Order %v", l, ok, laidOK)
	}
	if !is {
		if len(back) != 0 || len(laid) != 0 {
			t.Errorf("P4.3: of %v, which is no order, Back = %v, Order = %v", l, back, laid)
		}
		return
	}
	if len(back) != len(l) || len(laid) != len(l) {
		t.Fatalf("P4.3: of %v: Back = %v, Order = %v", l, back, laid)
	}
	for i, x := range l {
		if back[x] != i || laid[i] != things[x] {
			t.Errorf("P4.3: of %v: Back = %v, Order = %v", l, back, laid)
		}
	}
	if again, ok := Back(back); !ok || !slices.Equal(again, l) {
		t.Errorf("P4.3: Back of Back(%v) = %v", l, again)
	}
	if again, ok := Order(laid, back); !ok || !slices.Equal(again, things) {
		t.Errorf("P4.3: Order of Order by the Back of %v = %v", l, again)
	}
}

func TestOrderOfNothingAndOfOne(t *testing.T) {
	for _, none := range [][]int{nil, {}, roomy(nil, 3)} {
		if back, ok := Back(none); !Is(none) || !ok || len(back) != 0 {
			t.Errorf("P4.3: Back of nothing = %v, %v", back, ok)
		}
		if l, ok := Order([]string(nil), none); !ok || len(l) != 0 {
			t.Errorf("P4.3: Order of nothing = %v, %v", l, ok)
		}
		if l, ok := Order([]string{"a"}, none); ok || len(l) != 0 {
			t.Errorf("P4.3: Order of a by nothing = %v, %v", l, ok)
		}
	}
	if l, ok := Order([]string{"a"}, []int{0}); !ok || !slices.Equal(l, []string{"a"}) || !Is([]int{0}) {
		t.Errorf("P4.3: Order of a by 0 = %v, %v", l, ok)
	}
	if l, ok := Order([]string{}, []int{0}); ok || len(l) != 0 {
		t.Errorf("P4.3: Order of nothing by 0 = %v, %v", l, ok)
	}
}

func TestOrderOfAnotherLength(t *testing.T) {
	for n := range 6 {
		for m := range 6 {
			if l, ok := Order(roomy(increasing(n), 9), increasing(m)); ok != (n == m) || !ok && len(l) != 0 {
				t.Errorf("P4.3: Order of %d things by an order of %d = %v, %v", n, m, l, ok)
			}
		}
	}
}

func TestOrdersFarFromAny(t *testing.T) {
	for _, l := range [][]int{{math.MinInt}, {math.MaxInt}, {0, math.MinInt}, {math.MaxInt, 0}, {1 << 32, 1}, {0, -1 << 32}} {
		holdOrder(t, l, false)
	}
	r := rand.New(rand.NewSource(4))
	for _, n := range []int{100, 1000, 65536} {
		l := r.Perm(n)
		back, ok := Back(l)
		laid, laidOK := Order(l, back)
		if !Is(l) || !ok || !laidOK || !slices.Equal(laid, increasing(n)) {
			t.Errorf("P4.3: an order of %d is not led back", n)
		}
		at, from := r.Intn(n), r.Intn(n-1)
		if from >= at {
			from++
		}
		l[at] = l[from]
		if back, ok := Back(l); Is(l) || ok || len(back) != 0 {
			t.Errorf("P4.3: an order of %d with a number twice", n)
		}
	}
}

func TestOrdersStayAsTheyWere(t *testing.T) {
	for _, order := range [][]int{{2, 0, 1}, {0, 0, 1}, {0, 1, 3}} {
		for _, spare := range []int{0, 1, 4} {
			o, l := roomy(order, spare), roomy([]int{7, 8, 9}, spare)
			oBefore, lBefore := held(o), held(l)
			Is(o)
			back, _ := Back(o)
			again, _ := Back(o)
			laid, _ := Order(l, o)
			twice, _ := Order(l, o)
			backWas, laidWas := slices.Clone(again), slices.Clone(twice)
			spoil(back)
			spoil(laid)
			if !slices.Equal(held(o), oBefore) || !slices.Equal(held(l), lBefore) {
				t.Errorf("P4.3: %v is %v, or %v is %v (R5)", oBefore, held(o), lBefore, held(l))
			}
			if !slices.Equal(again, backWas) || !slices.Equal(twice, laidWas) {
				t.Error("P4.3: two answers share memory (R5)")
			}
		}
	}
	o := roomy([]int{2, 0, 1}, 2)
	if l, ok := Order(o, o); !ok || !slices.Equal(l, []int{1, 2, 0}) || !slices.Equal(held(o), []int{2, 0, 1, 77, 77}) {
		t.Errorf("P4.3: Order of an order by itself = %v, %v", l, ok)
	}
}
