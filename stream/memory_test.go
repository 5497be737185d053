package stream

import (
	"math"
	"slices"
	"strings"
	"testing"

	"marginalia/api"
)

// texts are streams of each kind, right and wrong, on which the promises of memory are tried.
func texts() []string {
	return []string{"", "# c", "a", "---", "--- a\n--- b", "%YAML 1.2\n%TAG !e! x:\n# c\n---\n- !e!y a\n- !!str b\n- !c\n...\n...\n%B\n--- &x [!d *e]\n", "a: b\n...\n- |\n  c\n d", "!e!x a", "a\n... b", "...\n%A", "%YAML 2.0\n---", "%TAG ! a\n%TAG ! b\n---", "'a'\n b", "---\n\ta", "\"\\ud800\"", strings.Repeat("[", api.MaxDepth+1)}
}

// TestNilAndEmpty: P1501, P1502: nil and an empty list mean the same, in each place.
func TestNilAndEmpty(t *testing.T) {
	for _, none := range [][]api.Line{nil, {}, make([]api.Line, 0, 4), all("a: b")[:0], all("a: b")[1:]} {
		if list, e := Read(none); len(list) != 0 || e != api.OK {
			t.Errorf("P1501: no lines: %v, %v", list, e)
		}
	}
	for _, nothing := range [][]int{nil, {}, points("a: b")[:0], points("a: b")[4:]} {
		void := api.Line{Text: nothing}
		l := []api.Line{void, {Indent: 3, Text: nothing}, {Text: points("%A")}, void, {Text: points("---")}, void, {Text: points("- b")}, void, {Text: points("...")}, void}
		for from := range 3 {
			if got := read(l[from:]); got != "= ( :b ) ." {
				t.Errorf("P1502: empty Texts from %d on: %s", from, got)
			}
		}
		if got := read([]api.Line{void}); got != "" {
			t.Errorf("P1502: an empty Text: %s", got)
		}
	}
}

// TestTwice: P1502: the same call tells the same, whatever was asked between.
func TestTwice(t *testing.T) {
	for _, s := range texts() {
		l := all(s)
		want := read(l)
		for _, x := range texts() {
			read(all(x))
			if again := read(l); again != want {
				t.Fatalf("P1502: %q: %s, then %s", s, want, again)
			}
		}
	}
}

// TestBeside: P1502: many ask at the same time, and each is told the same as one alone.
func TestBeside(t *testing.T) {
	for _, s := range texts() {
		l := all(s)
		want := read(all(s))
		done := make(chan string)
		for range 6 {
			go func() { done <- read(l) }()
		}
		for range 6 {
			if got := <-done; got != want {
				t.Errorf("P1502: %q side by side: %s, not %s", s, got, want)
			}
		}
	}
}

// roomy makes lines of s with room around each list, which is filled with x.
func roomy(s string, x int) (whole []api.Line, l []api.Line) {
	more := api.Line{Text: []int{x, x, x}}
	whole = append(whole, more)
	for _, line := range all(s) {
		room := append(append([]int{x, x}, line.Text...), x, x, x)
		whole = append(whole, api.Line{Indent: line.Indent, Text: room[2 : 2+len(line.Text)]})
	}
	whole = append(whole, more, more)
	return whole, whole[1 : len(whole)-2]
}

// copied is a copy of lines with all the room behind them and their Texts.
func copied(l []api.Line) []api.Line {
	l = slices.Clone(l[:cap(l)])
	for at := range l {
		l[at].Text = slices.Clone(l[at].Text[:cap(l[at].Text)])
	}
	return l
}

// sameLines tells whether two lists of lines are the same.
func sameLines(a, b []api.Line) bool {
	return slices.EqualFunc(a, b, func(x, y api.Line) bool { return x.Indent == y.Indent && slices.Equal(x.Text, y.Text) })
}

// TestUnchanged: P1502: what is handed in stays as it is, the room around it too, and that room is not looked at.
func TestUnchanged(t *testing.T) {
	for _, s := range texts() {
		want := read(all(s))
		for _, x := range []int{0, 'a', '-', '.', '%', '!', '\'', ':', ' ', '#', 9, -1} {
			whole, l := roomy(s, x)
			before := copied(whole)
			if got := read(l); got != want {
				t.Errorf("P1502: %q within more of %d: %s, not %s", s, x, got, want)
			}
			if !sameLines(copied(whole), before) {
				t.Fatalf("P1502: %q within more of %d was changed: %v", s, x, whole)
			}
		}
	}
}

// TestFreshMemory: P1502: what is answered shares no memory with what is handed in, nor with another answer.
func TestFreshMemory(t *testing.T) {
	for _, s := range texts() {
		l := all(s)
		list, _ := Read(l)
		want := show(list)
		again, _ := Read(l)
		for at := range again[:cap(again)] {
			again[:cap(again)][at] = api.Event{Kind: -1, Text: "x"}
		}
		for at := range l {
			for c := range l[at].Text {
				l[at].Text[c] = 'x'
			}
			l[at] = api.Line{}
		}
		if got := show(list); got != want {
			t.Errorf("P1502: %q: %s, then %s", s, want, got)
		}
	}
}

// TestFarNumbers: P1501: Indents and code points may be any numbers.
func TestFarNumbers(t *testing.T) {
	for _, indent := range []int{math.MinInt, -1, 1, math.MaxInt} {
		for _, x := range []struct{ text, want string }{{"# c", ""}, {"", ""}, {"a", "+ :a -"}, {"---", "+ :--- -"}, {"...", "+ :... -"}, {"%A", "ErrSyntax"}} {
			l := []api.Line{{Indent: indent, Text: points(x.text)}}
			want := x.want
			if indent < 0 && want != "" && want != "ErrSyntax" {
				want = read(l) // whether a node may stand so is the parser's to say
			}
			if got := read(l); got != want {
				t.Errorf("P1501: %q at Indent %d: %s, not %s", x.text, indent, got, want)
			}
			if got := signOf(first(l)); indent < 0 && (got == "=" || got == "." || x.want == "" && got != "?0") {
				t.Errorf("P1501: %q at Indent %d: %s", x.text, indent, got)
			}
		}
		l := []api.Line{{Text: points("%A")}, {Indent: indent, Text: points("---")}}
		if got := read(l); got != "ErrSyntax" {
			t.Errorf("P1501: --- at Indent %d behind a directive: %s", indent, got)
		}
	}
	for _, c := range []int{math.MinInt, -1, 0, 10, 13, 55296, 1114112, math.MaxInt} {
		for _, head := range []string{"", "--- ", "... ", "%", "%A", "%A ", "%YAML 1.2", "%TAG ! ", "# ", "!", "!e"} {
			l := []api.Line{{Text: append(points(head), c)}, {Text: points("---")}}
			got := read(l)
			switch head {
			case "... ", "%YAML 1.2", "%TAG ! ":
				if got != "ErrSyntax" {
					t.Errorf("P1501: %q and %d: %s", head, c, got)
				}
			case "# ", "%A ":
				if got != "= : -" {
					t.Errorf("P1501: %q and %d: %s", head, c, got)
				}
			}
		}
	}
}

// first is the first event of lines, if there is one.
func first(l []api.Line) api.Event {
	list, _ := Read(l)
	if len(list) == 0 {
		return api.Event{}
	}
	return list[0]
}

// TestLeft: the loop over events may be left at each of them, and nothing of what stands behind is met then.
func TestLeft(t *testing.T) {
	l := all("%A\n--- [a, [b]]\n...\n- c\n... d")
	want := []int{0, 1, 2, 2, 3, 2, 1, 0, 0, 1, 2, 1}
	for stop := range len(want) {
		r := reader{rest: l}
		var got []int
		for _, deep := range r.events() {
			got = append(got, deep)
			if len(got) > stop {
				break
			}
		}
		if !slices.Equal(got, want[:stop+1]) || r.wrong != api.OK {
			t.Errorf("P1501: depths up to %d: %v, %v", stop, got, r.wrong)
		}
	}
	r := reader{rest: l}
	told := 0
	for range r.events() {
		told++
	}
	if told != len(want) || r.wrong != api.ErrSyntax {
		t.Errorf("P1502: %d events, then %v", told, r.wrong)
	}
}
