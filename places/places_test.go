package places

import (
	"math"
	"slices"
	"strings"
	"testing"

	"marginalia/api"
)

// all makes lines of s, parted at each 10: the blanks ahead count.
func all(s string) Lines {
	var l Lines
	for _, x := range strings.Split(s, "\n") {
		text := strings.TrimLeft(x, " ")
		line := api.Line{Indent: len(x) - len(text)}
		for _, c := range text {
			line.Text = append(line.Text, int(c))
		}
		l = append(l, line)
	}
	return l
}

// TestOf: the place of a line and a column, and the column of that place.
func TestOf(t *testing.T) {
	l := all("  ab\n\nc")
	l = append(l, api.Line{Indent: -3, Text: []int{'d'}})
	for _, x := range []struct {
		line, column int
		want         Place
		back         int
	}{{0, 0, Place{0, 0}, 2}, {0, 1, Place{0, 0}, 2}, {0, 2, Place{0, 0}, 2}, {0, 3, Place{0, 1}, 3}, {0, 4, Place{0, 2}, 4}, {0, 5, Place{0, 2}, 4}, {0, math.MaxInt, Place{0, 2}, 4}, {1, 0, Place{1, 0}, 0}, {1, 9, Place{1, 0}, 0}, {2, 1, Place{2, 1}, 1}, {3, 0, Place{3, 0}, 0}, {3, 1, Place{3, 1}, 1}} {
		got, found := l.Of(x.line, x.column)
		if got != x.want || !found {
			t.Errorf("Of %d, %d: %v, %v, not %v", x.line, x.column, got, found, x.want)
		}
		if back := l.Column(got); back != x.back {
			t.Errorf("Column of %v: %d, not %d", got, back, x.back)
		}
	}
	for _, x := range [][2]int{{-1, 0}, {4, 0}, {0, -1}, {math.MinInt, 0}, {math.MaxInt, 0}, {0, math.MinInt}} {
		if got, found := l.Of(x[0], x[1]); found || got != (Place{}) {
			t.Errorf("Of %v: %v", x, got)
		}
	}
	if got, found := Lines(nil).Of(0, 0); found || got != (Place{}) {
		t.Errorf("Of no lines: %v", got)
	}
}

// TestStands: what stands at places of a line.
func TestStands(t *testing.T) {
	l := all("  #a \t#b#")
	for at, x := range []struct{ ends, isBlank bool }{{true, false}, {false, false}, {false, true}, {false, true}, {true, false}, {false, false}, {false, false}, {true, true}} {
		p := Place{0, at}
		if l.Ends(p) != x.ends || l.Blank(p) != x.isBlank {
			t.Errorf("at %d: %v, %v", at, l.Ends(p), l.Blank(p))
		}
		if rest := l.Rest(p); !slices.Equal(rest, l[0].Text[at:]) {
			t.Errorf("Rest at %d: %v", at, rest)
		}
		if got, want := l.Stands(p, '#'), at == 0 || at == 4 || at == 6; got != want {
			t.Errorf("Stands at %d: %v", at, got)
		}
		want := p
		if l.Blank(p) && at < 4 {
			want = Place{0, 4}
		}
		if got := l.PastBlanks(p); got != want {
			t.Errorf("PastBlanks at %d: %v", at, got)
		}
	}
}

// TestFrom: a loop over places may be left at each of them, and the same iterator may be ranged over again.
func TestFrom(t *testing.T) {
	want := []Place{{0, 1}, {1, 0}, {2, 0}}
	from := all("ab\n c\nd").From(Place{0, 1})
	for stop := range 4 {
		var got []Place
		for p := range from {
			got = append(got, p)
			if len(got) > stop {
				break
			}
		}
		if !slices.Equal(got, want[:min(stop+1, 3)]) {
			t.Errorf("up to %d: %v", stop, got)
		}
	}
}
