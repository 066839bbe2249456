package rows

// Heap hands out its things by less, those alike as they came. Each entry goes ahead of the two at twice its place + 1 and + 2.
type Heap[T any] struct {
	less    func(a, b T) bool
	entries []entry[T]
	turn    int  // of the next one that is put in
	asking  bool // while less is asked
}

// entry is a thing and when it was put in, so that no two entries are alike.
type entry[T any] struct {
	thing T
	turn  int
}

// NewHeap is an empty heap whose things go by less.
func NewHeap[T any](less func(a, b T) bool) *Heap[T] {
	return &Heap[T]{less: less}
}

// Put puts the things in, one behind the other; false, if there is no heap.
func (h *Heap[T]) Put(x ...T) bool {
	if h.none() {
		return false
	}
	for _, thing := range x {
		h.entries = append(h.entries, entry[T]{thing, h.turn})
		h.turn++
		h.rise(len(h.entries) - 1)
	}
	return true
}

// Take takes out the thing that goes ahead of the others; false, if there is none.
func (h *Heap[T]) Take() (T, bool) {
	var none T
	if h.none() || len(h.entries) == 0 {
		return none, false
	}
	first, last := h.entries[0], len(h.entries)-1
	h.entries[0] = h.entries[last]
	h.entries[last] = entry[T]{} // what is taken out is not held in the spare room
	h.entries = h.entries[:last]
	h.sink()
	return first.thing, true
}

// Len is how many things there are.
func (h *Heap[T]) Len() int {
	if h == nil {
		return 0
	}
	return len(h.entries)
}

// none tells whether there is no heap, or one that NewHeap did not make. A heap whose less is being asked is none for less either: so every call ends, even of a less that asks the heap.
func (h *Heap[T]) none() bool {
	return h == nil || h.less == nil || h.asking
}

// ahead tells whether a goes ahead of b. Of two alike the one that was put in first does, so that it is enough to ask whether the later one is less.
func (h *Heap[T]) ahead(a, b entry[T]) bool {
	if a.turn < b.turn {
		return !h.ask(b.thing, a.thing)
	}
	return h.ask(a.thing, b.thing)
}

func (h *Heap[T]) ask(a, b T) bool {
	h.asking = true
	is := h.less(a, b)
	h.asking = false
	return is
}

// rise brings the entry at the place at up to where it belongs.
func (h *Heap[T]) rise(at int) {
	for at > 0 {
		above := (at - 1) / 2
		if !h.ahead(h.entries[at], h.entries[above]) {
			return
		}
		h.entries[at], h.entries[above] = h.entries[above], h.entries[at]
		at = above
	}
}

// sink brings the first entry down to where it belongs.
func (h *Heap[T]) sink() {
	at := 0
	for 2*at+1 < len(h.entries) {
		below := h.below(at)
		if !h.ahead(h.entries[below], h.entries[at]) {
			return
		}
		h.entries[at], h.entries[below] = h.entries[below], h.entries[at]
		at = below
	}
}

// below is the place of the foremost of the one or two entries below the place at.
func (h *Heap[T]) below(at int) int {
	left, right := 2*at+1, 2*at+2
	if right < len(h.entries) && h.ahead(h.entries[right], h.entries[left]) {
		return right
	}
	return left
}
