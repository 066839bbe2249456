package rows

import (
	"cmp"
	"math/rand"
	"slices"
	"testing"
)

// pair goes by its first number; its second one tells it from those alike.
type pair struct{ n, tag int }

func first(a, b pair) bool { return a.n < b.n }

// takeAll takes out all there is.
func takeAll[T any](h *Heap[T]) []T {
	l := []T{}
	for {
		x, ok := h.Take()
		if !ok {
			return l
		}
		l = append(l, x)
	}
}

// somePairs are as many pairs as said, of so many numbers, each with a tag of its own.
func somePairs(r *rand.Rand, size, numbers int) []pair {
	l := make([]pair, size)
	for i := range l {
		l[i] = pair{r.Intn(numbers), i + 1}
	}
	return l
}

func TestHeapOfTheDocument(t *testing.T) {
	h := NewHeap(first)
	if !h.Put(pair{2, 'a'}, pair{1, 'b'}, pair{2, 'c'}, pair{1, 'd'}) || h.Len() != 4 {
		t.Errorf("P4.5: Put of four: Len = %d", h.Len())
	}
	for i, want := range []pair{{1, 'b'}, {1, 'd'}, {2, 'a'}, {2, 'c'}} {
		if x, ok := h.Take(); x != want || !ok || h.Len() != 3-i {
			t.Errorf("P4.5: Take = %v, %v, not %v; Len = %d", x, ok, want, h.Len())
		}
	}
	for range 3 {
		if x, ok := h.Take(); x != (pair{}) || ok || h.Len() != 0 {
			t.Errorf("P4.5: Take of nothing = %v, %v", x, ok)
		}
	}
}

func TestHeapIsAStableSort(t *testing.T) {
	r := rand.New(rand.NewSource(5))
	for _, size := range []int{0, 1, 2, 3, 4, 5, 7, 8, 15, 16, 17, 100, 1000} {
		for _, numbers := range []int{1, 2, 5, 1000} {
			l := somePairs(r, size, numbers)
			want := slices.Clone(l)
			slices.SortStableFunc(want, func(a, b pair) int { return cmp.Compare(a.n, b.n) })
			all, each := NewHeap(first), NewHeap(first)
			all.Put(l...)
			for _, x := range l {
				each.Put(x)
			}
			if got := takeAll(all); !slices.Equal(got, want) {
				t.Fatalf("P4.5: Put of all %d, Take of all = %v, not %v", size, got, want)
			}
			if got := takeAll(each); !slices.Equal(got, want) {
				t.Fatalf("P4.5: Put of each of %d, Take of all = %v, not %v", size, got, want)
			}
		}
	}
}

// Every list of up to 6 pairs of 3 numbers, each also with the other less.
func TestHeapOfEveryShortList(t *testing.T) {
	for size := range 7 {
		lists := 1
		for range size {
			lists *= 3
		}
		for code := range lists {
			l := make([]pair, size)
			for i, c := 0, code; i < size; i, c = i+1, c/3 {
				l[i] = pair{c % 3, i + 1}
			}
			up, down := slices.Clone(l), slices.Clone(l)
			slices.SortStableFunc(up, func(a, b pair) int { return a.n - b.n })
			slices.SortStableFunc(down, func(a, b pair) int { return b.n - a.n })
			h, g := NewHeap(first), NewHeap(func(a, b pair) bool { return a.n > b.n })
			h.Put(l...)
			g.Put(l...)
			if a, b := takeAll(h), takeAll(g); !slices.Equal(a, up) || !slices.Equal(b, down) {
				t.Fatalf("P4.5: of %v: %v and %v", l, a, b)
			}
		}
	}
}

// foremost takes out of the list, whose things stand as they were put in, the one that Take tells.
func foremost(l []pair) ([]pair, pair) {
	at := 0
	for i, x := range l {
		if x.n < l[at].n {
			at = i
		}
	}
	return slices.Delete(slices.Clone(l), at, at+1), l[at]
}

func TestTakeBetweenPuts(t *testing.T) {
	r := rand.New(rand.NewSource(6))
	for _, numbers := range []int{1, 2, 4, 50} {
		for range 60 {
			h, l, tag := NewHeap(first), []pair{}, 0
			for range 80 {
				if r.Intn(3) == 0 {
					more := somePairs(r, r.Intn(6), numbers)
					for i := range more {
						tag++
						more[i].tag = tag
					}
					if !h.Put(more...) {
						t.Fatal("P4.5: Put says false")
					}
					l = append(l, more...)
				} else if x, ok := h.Take(); ok != (len(l) > 0) {
					t.Fatalf("P4.5: Take of %d things says %v", len(l), ok)
				} else if ok {
					var want pair
					if l, want = foremost(l); x != want {
						t.Fatalf("P4.5: Take = %v, not %v", x, want)
					}
				}
				if h.Len() != len(l) {
					t.Fatalf("P4.5: Len = %d, not %d", h.Len(), len(l))
				}
			}
		}
	}
}

func TestHeapOfThingsAlike(t *testing.T) {
	h := NewHeap(func(a, b int) bool { return false })
	for i := range 50 {
		h.Put(i)
	}
	for i := range 25 {
		if x, ok := h.Take(); x != i || !ok {
			t.Fatalf("P4.5: of things alike Take = %d, not %d, which was put in first", x, i)
		}
	}
	for i := 50; i < 90; i++ {
		h.Put(i)
	}
	if got := takeAll(h); !slices.Equal(got, increasing(90)[25:]) {
		t.Errorf("P4.5: of things alike: %v", got)
	}
	h.Put(3)
	h.Put(1, 2)
	if got := takeAll(h); !slices.Equal(got, []int{3, 1, 2}) {
		t.Errorf("P4.5: of things alike, in a heap that was empty again: %v", got)
	}
}

func TestPutOfNone(t *testing.T) {
	h := NewHeap(first)
	if !h.Put() || !h.Put([]pair{}...) || !h.Put([]pair(nil)...) || h.Len() != 0 {
		t.Error("P4.5: Put of none into an empty heap")
	}
	h.Put(pair{1, 1})
	if !h.Put() || h.Len() != 1 {
		t.Error("P4.5: Put of none")
	}
	if x, ok := h.Take(); x != (pair{1, 1}) || !ok {
		t.Errorf("P4.5: Take = %v, %v", x, ok)
	}
}

func TestPutKeepsNoList(t *testing.T) {
	for size := range 6 {
		for _, spare := range []int{0, 1, 4} {
			l := roomy([]int{5, 3, 4, 1, 2}[:size], spare)
			before := held(l)
			h := NewHeap(func(a, b int) bool { return a < b })
			h.Put(l...)
			h.Put(l...)
			want := slices.Sorted(slices.Values(append(slices.Clone(l), l...)))
			if !slices.Equal(held(l), before) {
				t.Errorf("P4.5: Put makes %v of %v (R5)", held(l), before)
			}
			spoil(l)
			if got := takeAll(h); !slices.Equal(got, want) {
				t.Errorf("P4.5: what is done to a list that was put in is seen: %v (R5)", got)
			}
			h.Put(7, 7, 7)
			if slices.Contains(l[:cap(l)], 7) {
				t.Errorf("P4.5: Put writes into a list that was given before (R5)")
			}
		}
	}
}

func TestHeapsKnowNothingOfEachOther(t *testing.T) {
	a, b := NewHeap(first), NewHeap(first)
	a.Put(pair{1, 1})
	b.Put(pair{2, 2})
	if x, _ := b.Take(); x != (pair{2, 2}) || a.Len() != 1 || b.Len() != 0 {
		t.Error("P4.5: one heap knows of another (R6)")
	}
}

func TestNoHeap(t *testing.T) {
	for what, h := range map[string]*Heap[string]{"a nil heap": nil, "&Heap{}": {}, "new(Heap)": new(Heap[string])} {
		for range 3 {
			if h.Put() || h.Put("a") || h.Put("a", "b", "c") {
				t.Errorf("P4.5: %s takes something in", what)
			}
			if x, ok := h.Take(); x != "" || ok {
				t.Errorf("P4.5: %s: Take = %q, %v", what, x, ok)
			}
			if h.Len() != 0 {
				t.Errorf("P4.5: %s: Len = %d", what, h.Len())
			}
		}
	}
}

// Of a less that is no order nothing is said, but that every call ends.
func TestEveryCallEndsWhateverLessSays(t *testing.T) {
	r := rand.New(rand.NewSource(7))
	turn := 0
	for what, less := range map[string]func(a, b int) bool{
		"always":       func(a, b int) bool { return true },
		"not more":     func(a, b int) bool { return a <= b },
		"at random":    func(a, b int) bool { return r.Intn(2) == 0 },
		"by turns":     func(a, b int) bool { turn++; return turn%2 == 0 },
		"round a ring": func(a, b int) bool { return (b-a+3)%3 == 1 },
	} {
		h := NewHeap(less)
		for i := range 200 {
			h.Put(i%3, i%5, i)
			h.Take()
		}
		for n := h.Len(); n >= 0; n-- {
			h.Take()
		}
		t.Logf("less %s: ended", what)
	}
}

// A less that asks the heap is none either: its calls end, too, and those of the heap.
func TestEveryCallEndsOfALessThatAsksTheHeap(t *testing.T) {
	var h *Heap[int]
	for _, ask := range []func(){
		func() { h.Put(1) },
		func() { h.Take() },
		func() { h.Len() },
		func() { h.Take(); h.Put(3, 2, 1); h.Take() },
	} {
		h = NewHeap(func(a, b int) bool { ask(); return a < b })
		for i := range 40 {
			h.Put(40-i, i)
		}
		for range 100 {
			h.Take()
		}
	}
}

func TestHeapKeepsNothingThatIsTaken(t *testing.T) {
	h := NewHeap(func(a, b *int) bool { return *a < *b })
	for i := range 9 {
		h.Put(&i)
	}
	for range 5 {
		h.Take()
	}
	for i, e := range h.entries[:cap(h.entries)] {
		if i >= 4 && e.thing != nil {
			t.Errorf("P4.5: what was taken out is held at %d", i)
		}
	}
}
