package rows

// Stack is a row of things: those that are done, and behind them those that are undone, the last undone first. One that NewStack did not make is like one of most 0: it has nothing and takes nothing.
type Stack[T any] struct {
	things []T
	done   int
	most   int
}

// NewStack is an empty stack of at most so many things; nil, if most is below 0.
func NewStack[T any](most int) *Stack[T] {
	if most < 0 {
		return nil
	}
	return &Stack[T]{most: most}
}

// Do lays x behind what is done, and forgets what was undone; false, if there is no room.
func (s *Stack[T]) Do(x T) bool {
	if s == nil || s.done >= s.most {
		return false
	}
	clear(s.things[s.done:]) // what is forgotten is not held in the spare room
	s.things = append(s.things[:s.done], x)
	s.done++
	return true
}

// Undo takes back the last thing that is done; false, if there is none.
func (s *Stack[T]) Undo() (T, bool) {
	if s == nil || s.done == 0 {
		var none T
		return none, false
	}
	s.done--
	return s.things[s.done], true
}

// Redo does the thing again that was undone last; false, if there is none.
func (s *Stack[T]) Redo() (T, bool) {
	if s == nil || s.done == len(s.things) {
		var none T
		return none, false
	}
	s.done++
	return s.things[s.done-1], true
}

// Done is what is done, the first one first.
func (s *Stack[T]) Done() []T {
	if s == nil {
		return nil
	}
	done := make([]T, s.done)
	copy(done, s.things)
	return done
}

// Len is how many things are done and how many undone.
func (s *Stack[T]) Len() (done, undone int) {
	if s == nil {
		return 0, 0
	}
	return s.done, len(s.things) - s.done
}
