package parser

import (
	"slices"
	"strconv"
	"strings"
	"testing"

	"marginalia/api"
	"marginalia/events"
)

// texts are texts of each kind, right and wrong, on which the promises of memory are tried.
func texts() []string {
	return []string{"a", "a b\n c\n\n d", "'it''s\n x'", "\"\\n\\\n y\"", "&a !t b: c\nd:\n- e\n- f: g", "? - a\n  - b\n: |\n   c\n  d\n", "- >-\n  a\n\n  b\n- &x\n  !t\n  c: d", "[a, b: c, {d: e}]: f\n*g : h", "a:\n  - b\n# c\n--- d", "a: b\nc", "a:\n\tb", "- 'a'\n  b", "\"\\ud800\"", "a: |\n    \n  b", "'a", "", "# c", "  - - - a", "a: 'b' c", "--- &x\n- a\n...", strings.Repeat("- ", api.MaxDepth+1)}
}

// tell is what Node tells of these lines at some places.
func tell(l []api.Line) string {
	var b strings.Builder
	for line := -1; line < 5; line++ {
		for column := -1; column < 8; column++ {
			list, behind, e := Node(l, line, column)
			b.WriteString(show(list, behind) + nameOf(e) + strconv.Itoa(len(list)) + "\n")
		}
	}
	return b.String()
}

// TestNilAndEmpty: P1402: nil and an empty list mean the same, in each place.
func TestNilAndEmpty(t *testing.T) {
	for _, none := range [][]api.Line{nil, {}, make([]api.Line, 0, 4), all("a: b")[:0], all("a: b")[1:]} {
		for line := -1; line < 3; line++ {
			for column := -1; column < 3; column++ {
				if got := read(none, line, column); got != "ErrArg" {
					t.Errorf("P1402: no lines at %d, %d: %s", line, column, got)
				}
			}
		}
	}
	for _, nothing := range [][]int{nil, {}, points("a: b")[:0], points("a: b")[4:]} {
		void := api.Line{Text: nothing}
		l := []api.Line{void, {Indent: 3, Text: nothing}, {Indent: 1, Text: points("a:")}, void, {Indent: 2, Text: points("b")}, {Indent: 5, Text: nothing}, {Indent: 2, Text: points("c")}, {Indent: 1, Text: points("d: |")}, void, void}
		for line := range 3 {
			if got := read(l, line, 0); got != "< :a :b/c :d | > @10" {
				t.Errorf("P1402: empty Texts at %d: %s", line, got)
			}
		}
		if got := read([]api.Line{void}, 0, 0); got != ": @1" {
			t.Errorf("P1402: an empty Text: %s", got)
		}
		if got := read([]api.Line{{Indent: 2, Text: nothing}}, 0, 2); got != ": @1" {
			t.Errorf("P1402: at the end of an empty Text: %s", got)
		}
		if got := read([]api.Line{void}, 0, 1); got != "ErrArg" {
			t.Errorf("P1402: behind an empty Text: %s", got)
		}
	}
}

// TestTwice: P1402: the same call tells the same, whatever was asked between.
func TestTwice(t *testing.T) {
	for _, s := range texts() {
		l := all(s)
		want := tell(l)
		for _, x := range texts() {
			tell(all(x))
			if again := tell(l); again != want {
				t.Fatalf("P1402: %q: %s, then %s", s, want, again)
			}
		}
		if fresh := tell(all(s)); fresh != want {
			t.Errorf("P1402: %q: %s, of other lines %s", s, want, fresh)
		}
	}
}

// TestBeside: P1402: many ask at the same time, and each is told the same as one alone.
func TestBeside(t *testing.T) {
	for _, s := range texts() {
		l := all(s)
		want := tell(all(s))
		done := make(chan string)
		for range 6 {
			go func() { done <- tell(l) }()
		}
		for range 6 {
			if got := <-done; got != want {
				t.Errorf("P1402: %q side by side: %s, not %s", s, got, want)
			}
		}
	}
}

// roomy makes lines of s with room around each list, which is filled with x.
func roomy(s string, x int) (whole []api.Line, l []api.Line) {
	more := api.Line{Indent: x, Text: []int{x, x}}
	whole = append(whole, more)
	for _, line := range all(s) {
		room := append(append([]int{x, x}, line.Text...), x, x, x)
		whole = append(whole, api.Line{Indent: line.Indent, Text: room[2 : 2+len(line.Text)]})
	}
	whole = append(whole, more, more)
	return whole, whole[1 : len(whole)-2]
}

// copied is a copy of lines with all the room behind their Texts.
func copied(l []api.Line) []api.Line {
	l = slices.Clone(l[:cap(l)])
	for at := range l {
		l[at].Text = slices.Clone(l[at].Text[:cap(l[at].Text)])
	}
	return l
}

// sameLines tells whether two lists of lines are the same.
func sameLines(a, b []api.Line) bool {
	return slices.EqualFunc(a, b, func(x, y api.Line) bool { return x.Indent == y.Indent && slices.Equal(x.Text, y.Text) })
}

// TestUnchanged: P1402: what is handed in stays as it is, the room around it too, and that room is not looked at.
func TestUnchanged(t *testing.T) {
	for _, s := range texts() {
		want := tell(all(s))
		for _, x := range []int{0, 'a', '-', ']', '\'', '"', ':', ' ', '#', 9, -1} {
			whole, l := roomy(s, x)
			before := copied(whole)
			if got := tell(l); got != want {
				t.Errorf("P1402: %q within more of %d: %s, not %s", s, x, got, want)
			}
			if !sameLines(copied(whole), before) {
				t.Fatalf("P1402: %q within more of %d was changed: %v", s, x, whole)
			}
		}
	}
}

// TestFresh: P1402: what is answered is new memory, each time, and nothing that was handed in is kept.
func TestFresh(t *testing.T) {
	for _, s := range texts() {
		l := all(s)
		want := tell(l)
		first, _, _ := Node(l, 0, 0)
		second, _, _ := Node(l, 0, 0)
		kept := slices.Clone(second)
		for at := range first[:cap(first)] {
			first[:cap(first)][at] = api.Event{Kind: 99, Text: "x"}
		}
		if !slices.Equal(second, kept) || tell(l) != want {
			t.Errorf("P1402: %q: what one call answered is in what another one does", s)
		}
		for at := range l {
			for i := range l[at].Text {
				l[at].Text[i] = '['
			}
			l[at].Indent = 4
		}
		if !slices.Equal(second, kept) {
			t.Errorf("P1402: %q: what was answered changed with what was handed in: %v", s, second)
		}
	}
}

// TestRight: P1401: what Node tells is a node: between a document's events it is Right; beside an error there is nothing.
func TestRight(t *testing.T) {
	for _, s := range texts() {
		l := all(s)
		for line := range l {
			for column := range 8 {
				list, behind, e := Node(l, line, column)
				row := slices.Concat([]api.Event{{Kind: api.EDoc}}, list, []api.Event{{Kind: api.EDone}})
				if e == api.OK && (!events.Right(row) || behind <= line || behind > len(l)) || e != api.OK && (list != nil || behind != 0) {
					t.Errorf("P1401: %q at %d, %d: %s, %v", s, line, column, show(list, behind), e)
				}
			}
		}
	}
}
