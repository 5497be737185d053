package compose

// table holds things by names: of each name the one that was set last.
type table[T any] struct{ rows map[string]T }

// set has the name stand for x from now on.
func (t *table[T]) set(name string, x T) {
	if t.rows == nil {
		t.rows = map[string]T{}
	}
	t.rows[name] = x
}

// get answers what the name stands for; false: nothing.
func (t *table[T]) get(name string) (T, bool) {
	x, known := t.rows[name]
	return x, known
}

// empty has no name stand for anything. (The rows are left, not cleared: that would take as long as there once were many of them, each time.)
func (t *table[T]) empty() {
	t.rows = nil
}
