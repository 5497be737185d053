package fold

import (
	"iter"
	"math"
	"slices"
	"strconv"
	"strings"
	"testing"
)

// chomps: clip, strip and keep, and numbers that are none of these.
var chomps = []int{0, 1, 2, 3, 4, 7, 256, 257, 258, -1, -2, -254, -255, math.MaxInt, math.MinInt, math.MinInt + 1, math.MinInt + 2}

// call is one of the package's calls, and which promise it keeps.
type call struct {
	name, promise string
	do            func(l [][]int) []int
}

// calls answers Flow, and Literal and Block with each chomp.
func calls() []call {
	list := []call{{"Flow", "P601", Flow}}
	for _, chomp := range chomps {
		n := strconv.Itoa(chomp)
		list = append(list, call{"Literal " + n, "P602", func(l [][]int) []int { return Literal(l, chomp) }})
		list = append(list, call{"Block " + n, "P603", func(l [][]int) []int { return Block(l, chomp) }})
	}
	return list
}

// points tells the code points of s.
func points(s string) []int {
	var l []int
	for _, c := range s {
		l = append(l, int(c))
	}
	return l
}

// lines tells the code points of each text.
func lines(texts ...string) [][]int {
	var l [][]int
	for _, s := range texts {
		l = append(l, points(s))
	}
	return l
}

// text tells code points as a text.
func text(l []int) string {
	var b strings.Builder
	for _, c := range l {
		b.WriteRune(rune(c))
	}
	return b.String()
}

func checkFlow(t *testing.T, want string, texts ...string) {
	t.Helper()
	if got := text(Flow(lines(texts...))); got != want {
		t.Errorf("P601: Flow of %q: %q, not %q", texts, got, want)
	}
}

// TestFlowOne: P601: no lines, and one, which is the first one and the last one.
func TestFlowOne(t *testing.T) {
	checkFlow(t, "")
	for _, s := range []string{"", " ", "\t", " \t  ", "a", " a", "a ", "\ta\t", "  a \t b  ", "\u00a0a\u0085"} {
		checkFlow(t, s, s)
	}
}

// TestFlowSides: P601: blanks at both ends of each line.
func TestFlowSides(t *testing.T) {
	for _, blanks := range []string{"", " ", "\t", "  ", "\t\t", " \t", "\t ", " \t \t\t  "} {
		x := blanks + "a" + blanks
		checkFlow(t, blanks+"a b", blanks+"a"+blanks, "b")
		checkFlow(t, "b a"+blanks, "b", x)
		checkFlow(t, "b a c", "b", x, "c")
		checkFlow(t, blanks+"a a"+blanks, x, x)
		checkFlow(t, blanks+"a a a"+blanks, x, x, x)
		checkFlow(t, blanks+"a\na\n\na"+blanks, x, blanks, x, blanks, blanks, x)
		inner := "a" + blanks + "b"
		checkFlow(t, inner+" "+inner+" "+inner, inner, inner, inner)
	}
	// What is a blank elsewhere is none here.
	checkFlow(t, "a\u00a0 \u00a0b\u3000 \u3000c", "a\u00a0 ", " \u00a0b\u3000", "\t\u3000c")
	checkFlow(t, "a\v \fb\u0085 \u2003c", "a\v", "\fb\u0085", "\u2003c")
}

// TestFlowEmpty: P601: empty lines, and such of blanks alone, at each place.
func TestFlowEmpty(t *testing.T) {
	for _, e := range []string{"", " ", "\t", " \t ", "\t  \t"} {
		checkFlow(t, "a\nb", "a", e, "b")
		checkFlow(t, "a\n\nb", "a", e, e, "b")
		checkFlow(t, "a\n\n\nb", "a", e, e, e, "b")
		checkFlow(t, "a\nb c", "a", e, "b", "c")
		checkFlow(t, "a b\nc", "a", "b", e, "c")
		checkFlow(t, "a\nb\n\nc", "a", e, "b", e, e, "c")
		checkFlow(t, " a", e, "a")
		checkFlow(t, "\na", e, e, "a")
		checkFlow(t, "\n\na b", e, e, e, "a", "b")
		checkFlow(t, " a\nb", e, "a", e, "b")
		checkFlow(t, "a ", "a", e)
		checkFlow(t, "a\n", "a", e, e)
		checkFlow(t, "a b\n\n", "a", "b", e, e, e)
		checkFlow(t, "a\nb ", "a", e, "b", e)
		checkFlow(t, " a ", e, "a", e)
		checkFlow(t, "\na\n", e, e, "a", e, e)
		checkFlow(t, " ", e, e)
		checkFlow(t, "\n", e, e, e)
		checkFlow(t, "\n\n", e, e, e, e)
		checkFlow(t, "\n\n\n", e, "", e, "", e)
	}
}

func checkChomped(t *testing.T, promise string, do func([][]int, int) []int, want [3]string, texts ...string) {
	t.Helper()
	for _, chomp := range chomps {
		x := want[0]
		if chomp == 1 || chomp == 2 {
			x = want[chomp]
		}
		if got := text(do(lines(texts...), chomp)); got != x {
			t.Errorf("%s: of %q with %d: %q, not %q", promise, texts, chomp, got, x)
		}
	}
}

// checkBoth is of lines between which nothing is folded.
func checkBoth(t *testing.T, clip, strip, keep string, texts ...string) {
	t.Helper()
	want := [3]string{clip, strip, keep}
	checkChomped(t, "P602", Literal, want, texts...)
	checkChomped(t, "P603", Block, want, texts...)
}

// TestChomp: P602, P603: empty lines at the end, and all of them empty, with each chomp.
func TestChomp(t *testing.T) {
	checkBoth(t, "", "", "")
	checkBoth(t, "", "", "\n", "")
	checkBoth(t, "", "", "\n\n", "", "")
	checkBoth(t, "", "", "\n\n\n\n", "", "", "", "")
	checkBoth(t, "a\n", "a", "a\n", "a")
	checkBoth(t, "a\n", "a", "a\n\n", "a", "")
	checkBoth(t, "a\n", "a", "a\n\n\n\n", "a", "", "", "")
	checkBoth(t, "\na\n", "\na", "\na\n", "", "a")
	checkBoth(t, "\n\n\na\n", "\n\n\na", "\n\n\na\n\n\n", "", "", "", "a", "", "")
	checkBoth(t, "a \n", "a ", "a \n\n", "a ", "")
	checkBoth(t, " a\t\n", " a\t", " a\t\n", " a\t")
}

// TestBlanksAlone: P602, P603: a line of blanks alone is not empty, and it is spaced.
func TestBlanksAlone(t *testing.T) {
	for _, e := range []string{" ", "\t", "  ", " \t", "\t \t"} {
		checkBoth(t, e+"\n", e, e+"\n", e)
		checkBoth(t, e+"\n", e, e+"\n\n", e, "")
		checkBoth(t, "\n"+e+"\n", "\n"+e, "\n"+e+"\n", "", e)
		checkBoth(t, e+"\n"+e+"\n", e+"\n"+e, e+"\n"+e+"\n", e, e)
		checkBoth(t, e+"\n\n\n"+e+"\n", e+"\n\n\n"+e, e+"\n\n\n"+e+"\n\n", e, "", "", e, "")
		checkBoth(t, "a\n"+e+"\nb\n", "a\n"+e+"\nb", "a\n"+e+"\nb\n", "a", e, "b")
		checkBoth(t, "a\n\n"+e+"\n", "a\n\n"+e, "a\n\n"+e+"\n\n\n", "a", "", e, "", "")
	}
}

// TestLiteral: P602: each end stays, whatever stands beside it.
func TestLiteral(t *testing.T) {
	check := func(clip, strip, keep string, texts ...string) {
		t.Helper()
		checkChomped(t, "P602", Literal, [3]string{clip, strip, keep}, texts...)
	}
	check("a\nb\n", "a\nb", "a\nb\n", "a", "b")
	check("a\nb\n", "a\nb", "a\nb\n\n\n", "a", "b", "", "")
	check("a\n\nb\n", "a\n\nb", "a\n\nb\n", "a", "", "b")
	check("a\n\n\nb\nc\n", "a\n\n\nb\nc", "a\n\n\nb\nc\n", "a", "", "", "b", "c")
	check("\n\na\n\nb\n", "\n\na\n\nb", "\n\na\n\nb\n\n", "", "", "a", "", "b", "")
	check(" a \n\tb\t\n", " a \n\tb\t", " a \n\tb\t\n\n", " a ", "\tb\t", "")
}

// TestBlock: P603: lines that begin with a blank and such that do not, side by side and with empty ones between.
func TestBlock(t *testing.T) {
	check := func(body string, texts ...string) {
		t.Helper()
		checkChomped(t, "P603", Block, [3]string{body + "\n", body, body + "\n"}, texts...)
		more := append(slices.Clone(texts), "", "")
		checkChomped(t, "P603", Block, [3]string{body + "\n", body, body + "\n\n\n"}, more...)
	}
	check("a b", "a", "b")
	check("a b c d", "a", "b", "c", "d")
	check("a\nb", "a", "", "b")
	check("a\n\nb", "a", "", "", "b")
	check("a\n\n\nb c", "a", "", "", "", "b", "c")
	check("\na b", "", "a", "b")
	check("\n\n\na\nb", "", "", "", "a", "", "b")
	check("a  b\t c", "a ", "b\t", "c") // blanks at the end of a line stay
	for _, x := range []string{" x", "\tx", "  x", " ", "\t"} {
		check(x+"\nb", x, "b")
		check("a\n"+x, "a", x)
		check("a\n"+x+"\nb", "a", x, "b")
		check(x+"\n"+x, x, x)
		check(x+"\n\nb", x, "", "b")
		check("a\n\n"+x, "a", "", x)
		check(x+"\n\n"+x, x, "", x)
		check(x+"\n\n\n\nb c", x, "", "", "", "b", "c")
		check("b c\n\n\n\n"+x, "b", "c", "", "", "", x)
		check("a\n\n"+x+"\n\n\nb\nc", "a", "", x, "", "", "b", "", "c")
		check(x+"\na b\n"+x+"\na", x, "a", "b", x, "a")
		check("\n"+x, "", x)
		check("\n\n"+x+"\nb c", "", "", x, "b", "c")
	}
	check("a \u00a0b \u0085c", "a", "\u00a0b", "\u0085c") // no blanks
}

// otherFlow: P601 by another way: the lines are joined by their ends, then each row of ends side by side loses one, and a single one becomes a blank.
func otherFlow(texts []string) string {
	last := len(texts) - 1
	out := ""
	for i, s := range texts {
		if i < last {
			s = strings.TrimRight(s, " \t")
		}
		if i > 0 {
			s = strings.TrimLeft(s, " \t")
		}
		if i == 0 {
			s += "$" // so that it counts as not empty
		} else if i == last {
			s = "^" + s
		}
		if i > 0 {
			out += "\n"
		}
		out += s
	}
	for i := len(out) - 1; i > 0; i-- {
		if out[i] == '\n' && out[i-1] != '\n' {
			if i+1 < len(out) && out[i+1] == '\n' {
				out = out[:i] + out[i+1:]
			} else {
				out = out[:i] + " " + out[i+1:]
			}
		}
	}
	return strings.NewReplacer("$", "", "^", "").Replace(out)
}

// otherBlock: P603, word by word and with no thought of time; with literal: P602.
func otherBlock(texts []string, chomp int, literal bool) string {
	last := len(texts) - 1
	for last >= 0 && texts[last] == "" {
		last--
	}
	out := ""
	for i := 0; i <= last; i++ {
		out += texts[i]
		if i == last {
			continue
		}
		if literal || texts[i] == "" && strings.Join(texts[:i], "") == "" {
			out += "\n"
			continue
		}
		if texts[i] == "" {
			continue // told with the line ahead that is not empty
		}
		k := 0
		for texts[i+1+k] == "" {
			k++
		}
		next := texts[i+1+k]
		switch {
		case strings.ContainsAny(texts[i][:1]+next[:1], " \t"):
			out += strings.Repeat("\n", k+1)
		case k == 0:
			out += " "
		default:
			out += strings.Repeat("\n", k)
		}
	}
	switch {
	case chomp == 2:
		return out + strings.Repeat("\n", len(texts)-max(last, 0))
	case chomp == 1 || last < 0:
		return out
	}
	return out + "\n"
}

// eachRow does it with every row of at most size of the texts.
func eachRow(texts []string, size int, do func(row []string)) {
	rows := [][]string{nil}
	for range size + 1 {
		var longer [][]string
		for _, row := range rows {
			do(row)
			for _, s := range texts {
				longer = append(longer, append(slices.Clone(row), s))
			}
		}
		rows = longer
	}
}

// TestFlowAll: P601: every short row of lines of each kind, held against the other way.
func TestFlowAll(t *testing.T) {
	eachRow([]string{"", " ", "\t ", "a", " b", "c\t", "\t d e "}, 5, func(row []string) {
		checkFlow(t, otherFlow(row), row...)
	})
}

// TestBlockAll: P602, P603: every short row of lines of each kind, with each chomp, held against the other way.
func TestBlockAll(t *testing.T) {
	eachRow([]string{"", " ", "a", " b", "\tc ", "d "}, 5, func(row []string) {
		l := lines(row...)
		for _, chomp := range []int{0, 1, 2, 3, -1} {
			if got, want := text(Literal(l, chomp)), otherBlock(row, chomp, true); got != want {
				t.Errorf("P602: Literal of %q with %d: %q, not %q", row, chomp, got, want)
			}
			if got, want := text(Block(l, chomp)), otherBlock(row, chomp, false); got != want {
				t.Errorf("P603: Block of %q with %d: %q, not %q", row, chomp, got, want)
			}
		}
	})
	eachRow([]string{"", "a", " b"}, 8, func(row []string) {
		if got, want := text(Block(lines(row...), 2)), otherBlock(row, 2, false); got != want {
			t.Errorf("P603: Block of %q: %q, not %q", row, got, want)
		}
	})
}

// TestNoPoints: numbers that are no code points, and ends of lines within a line, are not blank, not empty, and stay.
func TestNoPoints(t *testing.T) {
	for _, c := range []int{-1, 0, 10, 13, 32 + 256, 9 - 256, 32 + 1<<32, 9 - 1<<32, -32, -9, 55296, 57343, 1114112, math.MinInt, math.MinInt + 32, math.MinInt + 9, math.MaxInt} {
		one := []int{c}
		check := func(promise string, got, want []int) {
			t.Helper()
			if !slices.Equal(got, want) {
				t.Errorf("%s: with %d: %v, not %v", promise, c, got, want)
			}
		}
		check("P601", Flow([][]int{one}), one)
		check("P601", Flow([][]int{{c, 32}, {9, c, 32}, {}, {32, c, 9}, {9, c}}), []int{c, 32, c, 10, c, 32, c})
		check("P601", Flow([][]int{{32, c}, {c, 9, c}, {c, 32}}), []int{32, c, 32, c, 9, c, 32, c, 32})
		check("P602", Literal([][]int{one, {}, one, {}}, 0), []int{c, 10, 10, c, 10})
		check("P602", Literal([][]int{{}, one, {}}, 1), []int{10, c})
		check("P602", Literal([][]int{one, {}}, 2), []int{c, 10, 10})
		check("P603", Block([][]int{one, one, {}, one}, 0), []int{c, 32, c, 10, c, 10})
		check("P603", Block([][]int{one, {32, c}, {}, one, {}}, 1), []int{c, 10, 32, c, 10, 10, c})
		check("P603", Block([][]int{{}, {c, 32}, {c, 9}, {}}, 2), []int{10, c, 32, 32, c, 9, 10, 10})
	}
}

// TestNilAndEmpty: P604: nil and an empty list mean the same, as the lines and as each line.
func TestNilAndEmpty(t *testing.T) {
	for _, x := range calls() {
		for _, l := range [][][]int{nil, {}, make([][]int, 0, 3), lines("a")[:0]} {
			if got := x.do(l); len(got) != 0 {
				t.Errorf("%s: %s of no lines: %v", x.promise, x.name, got)
			}
		}
		eachRow([]string{"", "a", " b"}, 4, func(row []string) {
			want := x.do(lines(row...))
			for _, none := range [][]int{nil, {}, make([]int, 0, 5), points("abc")[3:], points("abc")[:0]} {
				l := lines(row...)
				for i := range l {
					if len(l[i]) == 0 {
						l[i] = none
					}
				}
				if got := x.do(l); !slices.Equal(got, want) {
					t.Errorf("%s: %s of %q: %v, not %v", x.promise, x.name, row, got, want)
				}
			}
		})
	}
}

// rows are lines of each kind, on which the promises of memory are tried.
func rows() [][]string {
	return [][]string{{"a"}, {""}, {" "}, {" a "}, {"a", "b"}, {"a ", "\tb"}, {"", "a", ""}, {"", ""}, {" a", "", "b ", "c", " ", "", "d", "", ""}, {"a", " b", "", "", "\tc", "", "d e"}}
}

// spoil writes over all of l, its spare room too.
func spoil(l []int) {
	l = l[:cap(l)]
	for i := range l {
		l[i] = -7
	}
}

// TestTwice: P604: the same call tells the same, whatever was done with what it told before, and whatever was called between.
func TestTwice(t *testing.T) {
	for _, x := range calls() {
		for _, row := range rows() {
			l := lines(row...)
			first := x.do(l)
			want := slices.Clone(first)
			spoil(first)
			for range 2 {
				for _, other := range rows() {
					Flow(lines(other...))
					Block(lines(other...), 2)
					Literal(lines(other...), 1)
				}
				got, second := x.do(l), x.do(lines(row...))
				if !slices.Equal(got, want) || !slices.Equal(second, want) {
					t.Errorf("P604: %s of %q: %v, then %v and %v", x.name, row, want, got, second)
				}
				spoil(got)
				if !slices.Equal(second, want) {
					t.Errorf("P604: %s of %q: two answers share memory", x.name, row)
				}
			}
		}
	}
}

// laid answers the lines of row as pieces of one list with room on all sides, and with spare lines behind them: the spare room of each one is the next one.
func laid(row []string) (room []int, all, l [][]int) {
	room = []int{1, 32, 3}
	var ends []int
	for _, s := range row {
		room = append(room, points(s)...)
		ends = append(ends, len(room))
	}
	room = append(room, 32, 9, 4, 5, 6, 7)
	from := 3
	for _, end := range ends {
		all = append(all, room[from:end])
		from = end
	}
	all = append(all, points("x"), nil, points(" y"))
	return room, all, all[:len(row)]
}

// TestUnchanged: P604: what is handed in stays as it is, the room around it too.
func TestUnchanged(t *testing.T) {
	for _, x := range calls() {
		for _, row := range rows() {
			want := x.do(lines(row...))
			room, all, l := laid(row)
			keptRoom, keptAll := slices.Clone(room), slices.Clone(all)
			got := x.do(l)
			told := slices.Clone(got)
			spoil(got)
			if !slices.Equal(told, want) {
				t.Errorf("P604: %s of %q within a list: %v, not %v", x.name, row, told, want)
			}
			if !slices.Equal(room, keptRoom) || !slices.EqualFunc(all, keptAll, sameList) || text(all[len(row)]) != "x" || text(all[len(row)+2]) != " y" {
				t.Errorf("P604: %s of %q changed what it was given: %v, not %v", x.name, row, room, keptRoom)
			}
		}
	}
}

// sameList tells whether a and b are one list: the same place, as long, with the same room.
func sameList(a, b []int) bool {
	if len(a) != len(b) || cap(a) != cap(b) {
		return false
	}
	return cap(a) == 0 || &a[:1][0] == &b[:1][0]
}

// TestOwnMemory: P604: what is told shares no memory with what was handed in, and hangs no more on it.
func TestOwnMemory(t *testing.T) {
	for _, x := range calls() {
		for _, row := range rows() {
			room, all, l := laid(row)
			got := x.do(l)
			want := slices.Clone(got)
			spoil(room)
			clear(all)
			if !slices.Equal(got, want) {
				t.Errorf("P604: %s of %q shares with what was handed in: %v, not %v", x.name, row, got, want)
			}
		}
	}
}

// TestMany: P601 to P603: no count of lines is too many, and no line too long.
func TestMany(t *testing.T) {
	const many = 1 << 18
	size := func(promise string, got []int, want int) {
		t.Helper()
		if len(got) != want {
			t.Errorf("%s: %d code points, not %d", promise, len(got), want)
		}
	}
	empty, blank := make([][]int, many), slices.Repeat(lines(" "), many)
	size("P601", Flow(empty), many-2)
	size("P601", Flow(blank), many-2)
	size("P602", Literal(empty, 0), 0)
	size("P602", Literal(empty, 2), many)
	size("P603", Block(empty, 1), 0)
	size("P603", Block(empty, 2), many)
	size("P603", Block(blank, 0), 2*many)
	mixed := slices.Repeat(lines("a", "", " b"), many)
	size("P601", Flow(mixed), 4*many-1)
	size("P602", Literal(mixed, 1), 6*many-1)
	size("P603", Block(mixed, 1), 6*many-1)
	long := slices.Repeat([]int{32}, many)
	size("P601", Flow([][]int{long, long, long}), 1)
	size("P602", Literal([][]int{long, long}, 0), 2*many+2)
	size("P603", Block([][]int{long, long}, 1), 2*many+1)
}

// TestLeft: a loop over the code points may be left at each of them, and the same iterator may be ranged over again.
func TestLeft(t *testing.T) {
	for _, row := range rows() {
		l := lines(row...)
		for _, all := range []iter.Seq[int]{flowPoints(l), wholePoints(l, 2, spaced), wholePoints(l, 0, always)} {
			want := slices.Collect(all)
			for stop := range len(want) {
				var got []int
				for c := range all {
					got = append(got, c)
					if len(got) > stop {
						break
					}
				}
				if !slices.Equal(got, want[:stop+1]) {
					t.Errorf("of %q up to %d: %v, not %v", row, stop, got, want[:stop+1])
				}
			}
		}
	}
}
