// Package stacks stands beside the layers: it holds what the ones share that go through collections in each other.
package stacks

// Stack holds things of which only the last one counts, until it is taken off.
type Stack[T any] struct{ list []T }

// Size answers how many there are.
func (s *Stack[T]) Size() int {
	return len(s.list)
}

// Push lays x on top.
func (s *Stack[T]) Push(x T) {
	s.list = append(s.list, x)
}

// Top answers the last one itself, up to the next Push; there must be one.
func (s *Stack[T]) Top() *T {
	return &s.list[len(s.list)-1]
}

// Pop takes the last one off; there must be one.
func (s *Stack[T]) Pop() T {
	x := *s.Top()
	s.list = s.list[:len(s.list)-1]
	return x
}
