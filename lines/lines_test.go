package lines

import (
	"math"
	"regexp"
	"slices"
	"strings"
	"testing"

	"marginalia/api"
)

// points tells the code points of s.
func points(s string) []int {
	var l []int
	for _, c := range s {
		l = append(l, int(c))
	}
	return l
}

// line is a line with these spaces and this text.
func line(indent int, text string) api.Line {
	return api.Line{Indent: indent, Text: points(text)}
}

func sameLine(a, b api.Line) bool {
	return a.Indent == b.Indent && slices.Equal(a.Text, b.Text)
}

func sameLines(a, b []api.Line) bool {
	return slices.EqualFunc(a, b, sameLine)
}

func checkRead(t *testing.T, s string, want []api.Line) {
	t.Helper()
	got, e := Read(points(s))
	if e != api.OK || !sameLines(got, want) {
		t.Errorf("P301: %q: %v, %v, not %v", s, got, e, want)
	}
}

// TestReadEnds: P301: each end at the beginning, in the middle, at the end, and several in a row.
func TestReadEnds(t *testing.T) {
	a, b, none := line(0, "a"), line(0, "b"), line(0, "")
	checkRead(t, "", nil)
	checkRead(t, "a", []api.Line{a})
	checkRead(t, "\n\r", []api.Line{none, none})
	checkRead(t, "a\n\r", []api.Line{a, none})
	checkRead(t, "a\n\rb", []api.Line{a, none, b})
	checkRead(t, "\n\rb", []api.Line{none, none, b})
	checkRead(t, "\r\r\n\n\n\r\r", []api.Line{none, none, none, none, none, none})
	checkRead(t, "a\r\nb\ra\nb", []api.Line{a, b, a, b})
	for _, end := range []string{"\r", "\n", "\r\n"} {
		checkRead(t, end, []api.Line{none})
		checkRead(t, "a"+end, []api.Line{a})
		checkRead(t, end+"a", []api.Line{none, a})
		checkRead(t, "a"+end+"b", []api.Line{a, b})
		checkRead(t, "a"+end+"b"+end, []api.Line{a, b})
		checkRead(t, end+end, []api.Line{none, none})
		checkRead(t, end+end+end+"a", []api.Line{none, none, none, a})
		checkRead(t, "a"+end+end+end+"b", []api.Line{a, none, none, b})
		checkRead(t, "a"+end+end+end, []api.Line{a, none, none})
	}
}

// TestReadIndent: P301: spaces and tabs at a line's beginning, and lines of them alone.
func TestReadIndent(t *testing.T) {
	checkRead(t, " a", []api.Line{line(1, "a")})
	checkRead(t, "   a  b  ", []api.Line{line(3, "a  b  ")})
	checkRead(t, "   ", []api.Line{line(3, "")})
	checkRead(t, "   \n", []api.Line{line(3, "")})
	checkRead(t, " \r\n  \r   \n    ", []api.Line{line(1, ""), line(2, ""), line(3, ""), line(4, "")})
	checkRead(t, "\ta", []api.Line{line(0, "\ta")})
	checkRead(t, "\t", []api.Line{line(0, "\t")})
	checkRead(t, "\t  a", []api.Line{line(0, "\t  a")})
	checkRead(t, "  \t  a", []api.Line{line(2, "\t  a")})
	checkRead(t, "  \t  ", []api.Line{line(2, "\t  ")})
	checkRead(t, "a\n  b\n   \n\t\n #", []api.Line{line(0, "a"), line(2, "b"), line(3, ""), line(0, "\t"), line(1, "#")})
	for _, n := range []int{1, 100, 70000} {
		spaces := strings.Repeat(" ", n)
		checkRead(t, spaces+"a\n"+spaces, []api.Line{line(n, "a"), line(n, "")})
	}
	// What is blank or ends lines elsewhere is neither here.
	checkRead(t, "\u00a0a\u0085b\u2028c\u2029d\u3000", []api.Line{line(0, "\u00a0a\u0085b\u2028c\u2029d\u3000")})
}

// TestReadMany: P301: no count of lines or code points is too many.
func TestReadMany(t *testing.T) {
	const many = api.MaxInput + 1
	got, e := Read(slices.Repeat([]int{10}, many))
	if e != api.OK || len(got) != many {
		t.Errorf("P301: %d lines, %v", len(got), e)
	}
	got, e = Read(slices.Repeat([]int{'a'}, many))
	if e != api.OK || len(got) != 1 || len(got[0].Text) != many {
		t.Errorf("P301: %d lines, %v", len(got), e)
	}
}

// TestReadWrong: P301: what may not be, at each place, beside all kinds of neighbours.
func TestReadWrong(t *testing.T) {
	wrong := []int{65279, 0, 1, 8, 11, 12, 14, 31, 127, 132, 134, 159, 55296, 57343, 65534, 65535, 1114112, -1, -32, -10, math.MinInt, math.MaxInt}
	for _, c := range wrong {
		for _, s := range []string{"", "a", "ab\ncd", "\r\n", "\n\n", " ", "  a\r\n\tb\r# c", "--- \n..."} {
			l := points(s)
			for at := range len(l) + 1 {
				got, e := Read(slices.Insert(slices.Clone(l), at, c))
				if e != api.ErrChar || len(got) != 0 {
					t.Errorf("P301: %d in %q at %d: %v, %v", c, s, at, got, e)
				}
			}
		}
	}
	for _, c := range []int{9, 32, 126, 133, 160, 55295, 57344, 65278, 65280, 65533, 65536, 1114111} {
		for _, l := range [][]int{{c, 'a', 'b'}, {'a', c, 'b'}, {'a', 'b', c}} {
			if got, e := Read(l); e != api.OK || len(got) != 1 {
				t.Errorf("P301: %v: %v, %v", l, got, e)
			}
		}
	}
}

// TestReadAll: P301: every short list of the signs that matter, against a pattern of a line.
func TestReadAll(t *testing.T) {
	pattern := regexp.MustCompile(`([^\r\n]*)(?:\r\n|\r|\n)|([^\r\n]+)$`)
	each([]string{"a", " ", "\t", "\r", "\n"}, 7, func(s string) {
		var want []api.Line
		for _, m := range pattern.FindAllStringSubmatch(s, -1) {
			text := m[1] + m[2]
			rest := strings.TrimLeft(text, " ")
			want = append(want, line(len(text)-len(rest), rest))
		}
		checkRead(t, s, want)
	})
}

// each does it with every row of at most size signs.
func each(signs []string, size int, do func(s string)) {
	rows := []string{""}
	for range size + 1 {
		var longer []string
		for _, s := range rows {
			do(s)
			for _, c := range signs {
				longer = append(longer, s+c)
			}
		}
		rows = longer
	}
}

// TestMarker: P302: the markers, with all that may and may not stand behind them.
func TestMarker(t *testing.T) {
	for sign, want := range map[string]int{"-": 1, ".": 2} {
		three := sign + sign + sign
		for _, behind := range []string{"", " ", "\t", " a", "\ta", "  ", " " + three, "\t#", " \u0085"} {
			checkMarker(t, three+behind, want)
		}
		for _, behind := range []string{"a", "-", ".", "#", ":", three, "\u0085", "\u00a0", "a ", "- ", ". "} {
			checkMarker(t, three+behind, 0)
		}
		for _, s := range []string{"", sign, sign + sign, sign + sign + " ", sign + sign + "a", "a" + three, " " + three, "\t" + three, sign + " " + sign + sign} {
			checkMarker(t, s, 0)
		}
	}
	for _, s := range []string{"-.-", ".-.", "--.", "..-", "-..", ".--", "===", "___", "\u2026", "   ", "\t\t\t"} {
		checkMarker(t, s, 0)
	}
	// Numbers that are no code points are nothing that could stand behind one.
	for _, c := range []int{-1, 0, 32 + 256, 9 - 256, math.MinInt, math.MaxInt} {
		if got := Marker(api.Line{Text: []int{'-', '-', '-', c}}); got != 0 {
			t.Errorf("P302: Marker with %d behind: %d", c, got)
		}
	}
}

func checkMarker(t *testing.T, s string, want int) {
	t.Helper()
	if got := Marker(line(0, s)); got != want {
		t.Errorf("P302: Marker %q: %d, not %d", s, got, want)
	}
	for _, indent := range []int{1, 2, 3, 256, -1, math.MinInt, math.MaxInt} {
		if got := Marker(line(indent, s)); got != 0 {
			t.Errorf("P302: Marker %q with %d: %d", s, indent, got)
		}
	}
}

// TestMarkerAll: P302: every short Text of the signs that matter, against a pattern.
func TestMarkerAll(t *testing.T) {
	first, second := regexp.MustCompile(`^---([ \t]|$)`), regexp.MustCompile(`^\.\.\.([ \t]|$)`)
	each([]string{"-", ".", " ", "\t", "a"}, 6, func(s string) {
		want := 0
		if first.MatchString(s) {
			want = 1
		}
		if second.MatchString(s) {
			want = 2
		}
		if got := Marker(line(0, s)); got != want {
			t.Errorf("P302: Marker %q: %d, not %d", s, got, want)
		}
	})
}

// TestEmptyBare: P302: Texts of nothing, of Blanks, and of # at all places.
func TestEmptyBare(t *testing.T) {
	for _, x := range []struct {
		s           string
		empty, bare bool
	}{
		{"", true, true},
		{" ", true, true},
		{"\t", true, true},
		{"\t \t  ", true, true},
		{"#", false, true},
		{"# a", false, true},
		{"##", false, true},
		{"#\t", false, true},
		{" #", false, true},
		{"\t#a", false, true},
		{"\t \t# a", false, true},
		{"a", false, false},
		{"a#", false, false},
		{"a #", false, false},
		{" a #", false, false},
		{"\ta", false, false},
		{"a ", false, false},
		{" \ta\t ", false, false},
		{"-", false, false},
		{"--- #", false, false},
		{"\u0085", false, false},
		{"\u00a0#", false, false},
	} {
		for _, indent := range []int{0, 1, 3, -1, math.MinInt, math.MaxInt} {
			l := line(indent, x.s)
			if Empty(l) != x.empty || Bare(l) != x.bare {
				t.Errorf("P302: %q with %d: %v, %v", x.s, indent, Empty(l), Bare(l))
			}
		}
	}
	for _, c := range []int{-1, 0, 10, 13, 32 + 256, 9 - 256, '#' + 256, math.MinInt, math.MaxInt} {
		for _, l := range []api.Line{{Text: []int{c}}, {Text: []int{32, c}}, {Text: []int{c, '#'}}, {Text: []int{9, c, 32}}} {
			if Empty(l) || Bare(l) {
				t.Errorf("P302: %v: %v, %v", l, Empty(l), Bare(l))
			}
		}
	}
}

// TestEmptyBareAll: P302: every short Text of the signs that matter, against patterns.
func TestEmptyBareAll(t *testing.T) {
	empty, bare := regexp.MustCompile(`^[ \t]*$`), regexp.MustCompile(`^[ \t]*(#|$)`)
	each([]string{" ", "\t", "#", "a"}, 6, func(s string) {
		if Empty(line(0, s)) != empty.MatchString(s) || Bare(line(0, s)) != bare.MatchString(s) {
			t.Errorf("P302: %q: %v, %v", s, Empty(line(0, s)), Bare(line(0, s)))
		}
	})
}

// TestNilAndEmpty: P303: nil and an empty list mean the same.
func TestNilAndEmpty(t *testing.T) {
	for _, l := range [][]int{nil, {}, make([]int, 0, 5)} {
		if got, e := Read(l); e != api.OK || len(got) != 0 {
			t.Errorf("P303: %v, %v", got, e)
		}
		x := api.Line{Text: l}
		if Marker(x) != 0 || !Empty(x) || !Bare(x) {
			t.Errorf("P303: %d, %v, %v", Marker(x), Empty(x), Bare(x))
		}
	}
}

// TestTwice: P303: the same call tells the same, whatever was done with what it told before, and whatever was called between.
func TestTwice(t *testing.T) {
	l := points("  a\r\n\n\tb # c\n---\n   ")
	want := []api.Line{line(2, "a"), line(0, ""), line(0, "\tb # c"), line(0, "---"), line(3, "")}
	for range 3 {
		got, e := Read(l)
		if e != api.OK || !sameLines(got, want) {
			t.Fatalf("P303: %v, %v", got, e)
		}
		for i := range got {
			spoil(got[i].Text)
		}
		clear(got)
		if _, e := Read([]int{'x', 0}); e != api.ErrChar {
			t.Errorf("P303: %v", e)
		}
		x := line(0, "--- #")
		if Marker(x) != 1 || Empty(x) || Bare(x) {
			t.Errorf("P303: %v", x)
		}
	}
}

// spoil writes over all of l, its spare room too.
func spoil(l []int) {
	l = l[:cap(l)]
	for i := range l {
		l[i] = -7
	}
}

// TestUnchanged: P303: what is handed in stays as it is, the room around it too.
func TestUnchanged(t *testing.T) {
	for _, s := range []string{"", "a", " \t# a", "---", "... ", "  a\r\nb\n\n   \rc", "a\x00b"} {
		room := slices.Concat([]int{1, 2, 3}, points(s), []int{4, 5, 6, 7})
		kept := slices.Clone(room)
		l := room[3 : len(room)-4]
		Read(l)
		x := api.Line{Text: l}
		Marker(x)
		Empty(x)
		Bare(x)
		if !slices.Equal(room, kept) {
			t.Errorf("P303: %q: %v, not %v", s, room, kept)
		}
	}
}

// TestOwnMemory: P303: no list that is told shares memory with what was handed in, or with another one.
func TestOwnMemory(t *testing.T) {
	l := points("a\n  bc\r\n\n   \n\td\r# e")
	want := []api.Line{line(0, "a"), line(2, "bc"), line(0, ""), line(3, ""), line(0, "\td"), line(0, "# e")}
	for at := range want {
		handed := slices.Clone(l)
		got, _ := Read(handed)
		spoil(got[at].Text)
		for i := range got {
			if i != at && !sameLine(got[i], want[i]) {
				t.Errorf("P303: line %d shares with line %d: %v", at, i, got[i])
			}
		}
		if !slices.Equal(handed, l) {
			t.Errorf("P303: line %d shares with what was handed in: %v", at, handed)
		}
	}
	handed := slices.Clone(l)
	got, _ := Read(handed)
	spoil(handed)
	if !sameLines(got, want) {
		t.Errorf("P303: %v", got)
	}
}

// TestPieces: a loop over the lines may be left at each of them, and the same iterator may be ranged over again.
func TestPieces(t *testing.T) {
	all := pieces(points("a\r\nb\n\nc"))
	for range 2 {
		for stop := 1; stop <= 5; stop++ {
			var got []string
			for piece := range all {
				text := ""
				for _, c := range piece {
					text += string(rune(c))
				}
				got = append(got, text)
				if len(got) == stop {
					break
				}
			}
			if want := []string{"a", "b", "", "c"}[:min(stop, 4)]; !slices.Equal(got, want) {
				t.Errorf("pieces: %q, not %q", got, want)
			}
		}
	}
}
