package flow

// stack holds things of which only the last one counts, until it is taken off.
type stack[T any] struct{ list []T }

func (s *stack[T]) size() int {
	return len(s.list)
}

func (s *stack[T]) push(x T) {
	s.list = append(s.list, x)
}

// top answers the last one itself, up to the next push; there must be one.
func (s *stack[T]) top() *T {
	return &s.list[len(s.list)-1]
}

// pop takes the last one off; there must be one.
func (s *stack[T]) pop() T {
	x := *s.top()
	s.list = s.list[:len(s.list)-1]
	return x
}
