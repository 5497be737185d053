package same

import "testing"

// TestPairs: a pair has one number, whatever comes behind it, and is new but once; what stands in it may be of two types.
func TestPairs(t *testing.T) {
	var p pairs[string, [2]int]
	want := 0
	for _, a := range []string{"", "a", "b"} {
		for first := range 3 {
			for second := range 3 {
				if number, isNew := p.put(a, [2]int{first, second}); number != want || !isNew {
					t.Errorf("%s, %d, %d: %d, %v, not %d", a, first, second, number, isNew, want)
				}
				if number, isNew := p.put(a, [2]int{first, second}); number != want || isNew {
					t.Errorf("%s, %d, %d once more: %d, %v, not %d", a, first, second, number, isNew, want)
				}
				if number, isNew := p.put("", [2]int{}); number != 0 || isNew {
					t.Errorf("the first once more: %d, %v", number, isNew)
				}
				want++
			}
		}
	}
}
