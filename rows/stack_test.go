package rows

import (
	"math"
	"math/rand"
	"slices"
	"testing"
)

// twoRows is a stack by the document's words: a row of what is done, one of what is undone, the last undone last.
type twoRows struct {
	most         int
	done, undone []int
}

func (w *twoRows) do(x int) bool {
	if len(w.done) >= w.most {
		return false
	}
	w.done, w.undone = append(w.done, x), nil
	return true
}

// shift takes the last one of a row to the end of the other.
func shift(from, to *[]int) (int, bool) {
	if len(*from) == 0 {
		return 0, false
	}
	x := (*from)[len(*from)-1]
	*from, *to = (*from)[:len(*from)-1], append(*to, x)
	return x, true
}

// hold holds what a stack has to what the words say.
func (w *twoRows) hold(t *testing.T, s *Stack[int], what string) {
	t.Helper()
	done, undone := s.Len()
	if got := s.Done(); !slices.Equal(got, w.done) || done != len(w.done) || undone != len(w.undone) {
		t.Fatalf("P4.4: behind %s: Done = %v, Len = %d, %d, not %v, %d", what, got, done, undone, w.done, len(w.undone))
	}
	if done+undone > w.most {
		t.Fatalf("P4.4: %d done and %d undone of at most %d", done, undone, w.most)
	}
}

func TestStackOfTheDocument(t *testing.T) {
	s := NewStack[int](2)
	if !s.Do(1) || !s.Do(2) || s.Do(3) {
		t.Error("P4.4: Do of a stack of 2")
	}
	for i, c := range []struct {
		call func() (int, bool)
		x    int
		ok   bool
	}{{s.Undo, 2, true}, {s.Undo, 1, true}, {s.Undo, 0, false}, {s.Undo, 0, false}, {s.Redo, 1, true}} {
		if x, ok := c.call(); x != c.x || ok != c.ok {
			t.Errorf("P4.4: call %d = %d, %v, not %d, %v", i, x, ok, c.x, c.ok)
		}
	}
	if !s.Do(4) {
		t.Error("P4.4: Do behind an Undo")
	}
	if x, ok := s.Redo(); x != 0 || ok {
		t.Errorf("P4.4: Redo behind a Do = %d, %v", x, ok)
	}
	if n, m := s.Len(); !slices.Equal(s.Done(), []int{1, 4}) || n != 2 || m != 0 {
		t.Errorf("P4.4: Done = %v, Len = %d, %d", s.Done(), n, m)
	}
}

func TestStackByTheWords(t *testing.T) {
	r := rand.New(rand.NewSource(9))
	for most := range 8 {
		for range 40 {
			s, w := NewStack[int](most), &twoRows{most: most}
			for i := 1; i <= 60; i++ {
				what := "Do"
				switch r.Intn(4) {
				case 0, 1:
					if got, want := s.Do(i), w.do(i); got != want {
						t.Fatalf("P4.4: Do of a stack of %d says %v", most, got)
					}
				case 2:
					what = "Undo"
					x, ok := s.Undo()
					if want, is := shift(&w.done, &w.undone); x != want || ok != is {
						t.Fatalf("P4.4: Undo = %d, %v, not %d, %v", x, ok, want, is)
					}
				case 3:
					what = "Redo"
					x, ok := s.Redo()
					if want, is := shift(&w.undone, &w.done); x != want || ok != is {
						t.Fatalf("P4.4: Redo = %d, %v, not %d, %v", x, ok, want, is)
					}
				}
				w.hold(t, s, what)
			}
		}
	}
}

func TestStackToItsEndsAndBack(t *testing.T) {
	const n = 100
	s := NewStack[int](n)
	want := []int{}
	for i := range n {
		want = append(want, i+5)
		if !s.Do(i + 5) {
			t.Fatalf("P4.4: Do number %d of %d", i, n)
		}
	}
	for range 3 {
		for i := n - 1; i >= 0; i-- {
			if x, ok := s.Undo(); x != want[i] || !ok {
				t.Fatalf("P4.4: Undo = %d, %v, not %d", x, ok, want[i])
			}
		}
		if x, ok := s.Undo(); x != 0 || ok || len(s.Done()) != 0 {
			t.Fatalf("P4.4: Undo of nothing = %d, %v", x, ok)
		}
		if done, undone := s.Len(); done != 0 || undone != n {
			t.Fatalf("P4.4: Len = %d, %d", done, undone)
		}
		for i := range n {
			if x, ok := s.Redo(); x != want[i] || !ok {
				t.Fatalf("P4.4: Redo = %d, %v, not %d", x, ok, want[i])
			}
		}
		if x, ok := s.Redo(); x != 0 || ok || !slices.Equal(s.Done(), want) || s.Do(1) {
			t.Fatalf("P4.4: Redo of nothing = %d, %v", x, ok)
		}
	}
}

// A Do that finds no room forgets nothing: there is nothing undone then, and what is done stays.
func TestDoAtMost(t *testing.T) {
	s := NewStack[string](1)
	if !s.Do("a") || s.Do("b") || s.Do("c") || !slices.Equal(s.Done(), []string{"a"}) {
		t.Errorf("P4.4: Done = %v", s.Done())
	}
	if x, ok := s.Undo(); x != "a" || !ok {
		t.Errorf("P4.4: Undo = %q, %v", x, ok)
	}
	if !s.Do("d") || !slices.Equal(s.Done(), []string{"d"}) {
		t.Errorf("P4.4: Done = %v", s.Done())
	}
}

func TestStacksOfTheEnds(t *testing.T) {
	none := NewStack[int](0)
	if none == nil || none.Do(1) {
		t.Fatal("P4.4: NewStack(0)")
	}
	(&twoRows{}).hold(t, none, "a Do that finds no room")
	if x, ok := none.Undo(); x != 0 || ok {
		t.Errorf("P4.4: Undo of a stack of 0 = %d, %v", x, ok)
	}
	if x, ok := none.Redo(); x != 0 || ok {
		t.Errorf("P4.4: Redo of a stack of 0 = %d, %v", x, ok)
	}
	for _, most := range []int{-1, -2, math.MinInt} {
		if NewStack[int](most) != nil {
			t.Errorf("P4.4: NewStack(%d) is a stack", most)
		}
	}
	great := NewStack[int](math.MaxInt)
	for i := range 1000 {
		if !great.Do(i) {
			t.Fatal("P4.4: Do of a stack of the most")
		}
	}
	if !slices.Equal(great.Done(), increasing(1000)) {
		t.Error("P4.4: Done of a stack of the most")
	}
}

func TestNoStack(t *testing.T) {
	for what, s := range map[string]*Stack[string]{"a nil stack": nil, "NewStack(-1)": NewStack[string](-1), "&Stack{}": {}, "new(Stack)": new(Stack[string])} {
		for range 3 {
			if s.Do("a") {
				t.Errorf("P4.4: %s does something", what)
			}
			if x, ok := s.Undo(); x != "" || ok {
				t.Errorf("P4.4: %s: Undo = %q, %v", what, x, ok)
			}
			if x, ok := s.Redo(); x != "" || ok {
				t.Errorf("P4.4: %s: Redo = %q, %v", what, x, ok)
			}
			if l := s.Done(); len(l) != 0 {
				t.Errorf("P4.4: %s: Done = %v", what, l)
			}
			if done, undone := s.Len(); done != 0 || undone != 0 {
				t.Errorf("P4.4: %s: Len = %d, %d", what, done, undone)
			}
		}
	}
}

func TestDoneIsNewMemory(t *testing.T) {
	s := NewStack[int](9)
	for i := range 5 {
		s.Do(i)
	}
	s.Undo()
	a, b := s.Done(), s.Done()
	spoil(a)
	if !slices.Equal(b, []int{0, 1, 2, 3}) || !slices.Equal(s.Done(), b) {
		t.Errorf("P4.4: what is done to an answer is seen: %v, %v (R5)", b, s.Done())
	}
	if x, ok := s.Redo(); x != 4 || !ok {
		t.Errorf("P4.4: what is done to an answer is seen in Redo: %d, %v (R5)", x, ok)
	}
	s.Undo()
	s.Undo()
	s.Do(8)
	if !slices.Equal(b, []int{0, 1, 2, 3}) {
		t.Errorf("P4.4: an answer is %v behind a Do (R5)", b)
	}
}

func TestStacksKnowNothingOfEachOther(t *testing.T) {
	a, b := NewStack[int](3), NewStack[int](3)
	a.Do(1)
	b.Do(2)
	a.Undo()
	if _, ok := b.Redo(); ok || !slices.Equal(b.Done(), []int{2}) {
		t.Error("P4.4: one stack knows of another (R6)")
	}
}

func TestStackKeepsNothingThatIsForgotten(t *testing.T) {
	s := NewStack[*int](9)
	for range 6 {
		s.Do(new(int))
	}
	for range 4 {
		s.Undo()
	}
	s.Do(new(int))
	for i, x := range s.things[:cap(s.things)] {
		if i >= 3 && x != nil {
			t.Errorf("P4.4: what was forgotten is held at %d", i)
		}
	}
}
