package stacks

import "testing"

// TestStack: what was pushed last is on top, and taken off first.
func TestStack(t *testing.T) {
	var s Stack[string]
	for _, x := range []string{"a", "b", "c"} {
		s.Push(x)
		if *s.Top() != x {
			t.Errorf("Top: %s, not %s", *s.Top(), x)
		}
	}
	*s.Top() += "d"
	for taken, want := range []string{"cd", "b", "a"} {
		if s.Size() != 3-taken {
			t.Errorf("Size: %d", s.Size())
		}
		if got := s.Pop(); got != want {
			t.Errorf("Pop: %s, not %s", got, want)
		}
	}
	if s.Size() != 0 {
		t.Errorf("Size behind all: %d", s.Size())
	}
}
