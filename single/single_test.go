package single

import (
	"math"
	"regexp"
	"slices"
	"strings"
	"testing"

	"marginalia/chars"
	"marginalia/fold"
)

// points tells the code points of s.
func points(s string) []int {
	var l []int
	for _, c := range s {
		l = append(l, int(c))
	}
	return l
}

// lines tells the code points of each text.
func lines(texts ...string) [][]int {
	var l [][]int
	for _, s := range texts {
		l = append(l, points(s))
	}
	return l
}

// text tells code points as a text.
func text(l []int) string {
	var b strings.Builder
	for _, c := range l {
		b.WriteRune(rune(c))
	}
	return b.String()
}

func checkEnd(t *testing.T, l []int, want int) {
	t.Helper()
	at, ok := End(l)
	if want < 0 && (ok || at != 0) || want >= 0 && (!ok || at != want) {
		t.Errorf("P801: End of %q: %d, %v, not %d", text(l), at, ok, want)
	}
}

func checkRead(t *testing.T, want string, texts ...string) {
	t.Helper()
	if got := Read(lines(texts...)); !slices.Equal(got, points(want)) {
		t.Errorf("P801: Read of %q: %q, not %q", texts, text(got), want)
	}
}

// checkBack: l may stand between quotes: Write tells it so, End the last quote, and Read of what stands between is l again.
func checkBack(t *testing.T, l []int) {
	t.Helper()
	if !May(l) {
		t.Errorf("P801: %v may not stand", l)
	}
	w := Write(l)
	last := len(w) - 1
	if last < 1 || w[0] != '\'' || w[last] != '\'' {
		t.Fatalf("P801: Write of %v: %v", l, w)
	}
	if at, ok := End(w[1:]); !ok || at != last-1 {
		t.Errorf("P801: Write of %v: %q: End tells %d, %v", l, text(w), at, ok)
	}
	if got := Read([][]int{w[1:last]}); !slices.Equal(got, l) {
		t.Errorf("P801: Write of %v: %q: read as %v", l, text(w), got)
	}
}

// checkNot: l may not stand between quotes, and nothing is written of it.
func checkNot(t *testing.T, l []int) {
	t.Helper()
	if May(l) {
		t.Errorf("P801: %v may stand", l)
	}
	if w := Write(l); len(w) != 0 {
		t.Errorf("P801: Write of %v: %v", l, w)
	}
}

// TestEnd: P801: no quote, one at each end, up to five side by side at each place, and other signs between.
func TestEnd(t *testing.T) {
	for s, want := range map[string]int{
		"": -1, "a": -1, "abc": -1, "\"": -1, "`": -1, "\\": -1,
		"'": 0, "'a": 0, "a'": 1, "ab'c": 2, "' ": 0, " '": 1,
		"''": -1, "''a": -1, "a''": -1, "a''b": -1,
		"'''": 2, "'''a": 2, "a'''": 3, "a'''b": 3,
		"''''": -1, "''''a": -1, "a''''": -1, "a''''b": -1,
		"'''''": 4, "'''''a": 4, "a'''''": 5, "a'''''b": 5,
		"'a'": 0, "' '": 0, "''a'": 3, "''a''": -1, "a''b'": 4, "''a'''": 5, "''a'b''": 3, "'a''": 0, "'\"'": 0,
		"\\'": 1, "\\''": -1, "\\'a": 1, "'\\'": 0, "é''😀'": 4, "''\n'": 3,
	} {
		checkEnd(t, points(s), want)
	}
}

// otherEnd: P801 by another way: a row of quotes of an odd count ends with the one that closes.
func otherEnd(s string) int {
	for _, row := range quotes.FindAllStringIndex(s, -1) {
		if (row[1]-row[0])%2 == 1 {
			return row[1] - 1
		}
	}
	return -1
}

var (
	quotes   = regexp.MustCompile(`'+`)
	someEnds = regexp.MustCompile(`[ \t]*\n[ \t\n]*`)
)

// otherRead: P801 by another way: the lines as one text, whose ends a pattern folds; of each row of quotes one half stays.
func otherRead(row []string) string {
	folded := someEnds.ReplaceAllStringFunc(strings.Join(row, "\n"), func(s string) string {
		if n := strings.Count(s, "\n"); n > 1 {
			return strings.Repeat("\n", n-1)
		}
		return " "
	})
	return quotes.ReplaceAllStringFunc(folded, func(s string) string {
		return s[len(s)/2:]
	})
}

// eachRow does it with every row of at most size of the texts.
func eachRow(texts []string, size int, do func(row []string)) {
	rows := [][]string{nil}
	for range size + 1 {
		var longer [][]string
		for _, row := range rows {
			do(row)
			for _, s := range texts {
				longer = append(longer, append(slices.Clone(row), s))
			}
		}
		rows = longer
	}
}

// TestEndAll: P801: every short row of the signs that matter, held against the other way.
func TestEndAll(t *testing.T) {
	eachRow([]string{"'", "a", "\\"}, 9, func(row []string) {
		s := strings.Join(row, "")
		checkEnd(t, points(s), otherEnd(s))
	})
}

// TestRead: P801: no lines, one line, quotes at each place, and lines that are folded.
func TestRead(t *testing.T) {
	checkRead(t, "")
	checkRead(t, "", "")
	checkRead(t, "a", "a")
	checkRead(t, " a ", " a ")
	checkRead(t, "\t a\t ", "\t a\t ")
	checkRead(t, "   ", "   ")
	checkRead(t, " \t", " \t")
	checkRead(t, "it's", "it''s")
	checkRead(t, "'ab", "''ab")
	checkRead(t, "a'b", "a''b")
	checkRead(t, "ab'", "ab''")
	checkRead(t, "'", "'")
	checkRead(t, "'", "''")
	checkRead(t, "''", "'''")
	checkRead(t, "''", "''''")
	checkRead(t, "'''", "'''''")
	checkRead(t, "a'b", "a'b")
	checkRead(t, "a''b", "a'''b")
	checkRead(t, "a''b", "a''''b")
	checkRead(t, "' '", "' '")
	checkRead(t, "'a'", "''a'")
	checkRead(t, `a\n\'"#`, `a\n\''"#`)
	checkRead(t, `a\ b`, `a\`, "b")

	checkRead(t, "a b", "a", "b")
	checkRead(t, " a b ", " a ", "\tb ")
	checkRead(t, "a\nb", "a", "", "b")
	checkRead(t, "a\n\nb", "a", " ", "\t ", "b")
	checkRead(t, "\n", "", "", "")
	checkRead(t, " ", "", "")
	checkRead(t, " ", " ", " ")
	checkRead(t, "\na\n", " ", "", "a", "", " ")
	checkRead(t, "a' 'b", "a''", "''b")
	checkRead(t, "a' 'b", "a'", "'b")
	checkRead(t, "a'' 'b", "a'''", "'b")
	checkRead(t, "' '", "'", "'")
	checkRead(t, "'\n'", "'", "", "'")
	checkRead(t, "' '\n\n'", "''", " '' ", " ", "", "''")
	checkRead(t, "a' 'b", "a'' ", " ''b")
	checkRead(t, "a' 'b", "a' ", " 'b")
}

// TestReadLines: P801: every short row of lines of each kind, held against the other way, and against folding each line with its pairs made one ahead.
func TestReadLines(t *testing.T) {
	check := func(row []string) {
		checkRead(t, otherRead(row), row...)
		var single [][]int
		for _, s := range row {
			single = append(single, points(strings.ReplaceAll(s, "''", "'")))
		}
		if got, want := Read(lines(row...)), fold.Flow(single); !slices.Equal(got, want) {
			t.Errorf("P801: Read of %q: %q, not %q", row, text(got), text(want))
		}
	}
	eachRow([]string{"", " ", "a", " b ", "'", "''", " '' ", "c'", "'\t"}, 4, check)
	eachRow([]string{"'", "|", " ", "a"}, 7, func(row []string) {
		check(strings.Split(strings.Join(row, ""), "|"))
	})
}

// likeQuote are numbers that are no quote, though some are in their last bits.
func likeQuote() []int {
	return []int{-1, -39, 0, 10, 13, 38, 40, 39 + 128, 39 + 256, 39 - 256, 39 + 1<<16, 39 + 1<<32, 39 - 1<<32, 32 + 256, 9 - 256, 55296, 57343, 1114112, math.MinInt, math.MinInt + 39, math.MaxInt, 8217, 65287}
}

// TestNumbers: P801: End and Read take a number that is no code point as a sign like others.
func TestNumbers(t *testing.T) {
	for _, c := range likeQuote() {
		checkEnd(t, []int{c}, -1)
		checkEnd(t, []int{c, c}, -1)
		checkEnd(t, []int{c, '\'', c}, 1)
		checkEnd(t, []int{'\'', '\'', c, '\'', '\'', '\''}, 5)
		l := [][]int{{c, c, 32}, {9, c, '\'', c, '\''}, {}, {'\'', '\'', c}}
		want := []int{c, c, 32, c, '\'', c, '\'', 10, '\'', c}
		if got := Read(l); !slices.Equal(got, want) {
			t.Errorf("P801: Read with %d: %v, not %v", c, got, want)
		}
	}
}

// TestMay: P801: what the document names, the borders of what is printed, and numbers that are no code points.
func TestMay(t *testing.T) {
	for _, c := range []int{9, 32, 39, 126, 133, 160, 8232, 8233, 55295, 57344, 65278, 65280, 65533, 65536, 1114111, 'a', '"', '\\'} {
		checkBack(t, []int{c})
		checkBack(t, []int{'a', c, 'b', c, c})
	}
	none := []int{10, 13, 65279, 0, 7, 8, 11, 12, 14, 27, 31, 127, 132, 134, 159, 65534, 65535}
	none = append(none, -1, -9, -32, -39, -97, 1114112, 1<<21, 1<<31, 97+1<<32, 97-1<<32, 39+1<<32, math.MaxInt32, math.MinInt32, math.MaxInt, math.MinInt, math.MinInt+97)
	for c := 55296; c <= 57343; c++ {
		none = append(none, c)
	}
	for _, c := range none {
		checkNot(t, []int{c})
		checkNot(t, []int{c, 'a'})
		checkNot(t, []int{'a', c})
		checkNot(t, []int{'\'', c, '\''})
		checkNot(t, []int{'a', c, 'b', c})
	}
}

// TestMayEach: P801: each number from below the code points to beyond them.
func TestMayEach(t *testing.T) {
	var all []int
	for c := -300; c < 1114412; c++ {
		want := chars.Print(c) && c != 10 && c != 13 && c != 65279
		if got := May([]int{c}); got != want {
			t.Errorf("P801: May of %d: %v", c, got)
		}
		w := Write([]int{c})
		switch {
		case !want && len(w) != 0:
			t.Errorf("P801: Write of %d: %v", c, w)
		case want && c != '\'' && !slices.Equal(w, []int{'\'', c, '\''}):
			t.Errorf("P801: Write of %d: %v", c, w)
		}
		if want {
			all = append(all, c)
		}
	}
	checkBack(t, all)
}

// TestWrite: P801: nothing, ordinary texts, quotes at each place, and texts of which nothing is written.
func TestWrite(t *testing.T) {
	for s, want := range map[string]string{
		"": "''", "a": "'a'", " ": "' '", " a\t": "' a\t'", "it's": "'it''s'", "'": "''''", "''": "''''''", "'''": "''''''''", "'a": "'''a'", "a'": "'a'''", "'a'": "'''a'''", "a''b": "'a''''b'", `\n"\`: `'\n"\'`, "é😀\u0085\u2028\u2029": "'é😀\u0085\u2028\u2029'", "a: [b] #c": "'a: [b] #c'",
	} {
		if got := Write(points(s)); !slices.Equal(got, points(want)) {
			t.Errorf("P801: Write of %q: %q, not %q", s, text(got), want)
		}
		checkBack(t, points(s))
	}
	for _, s := range []string{"\n", "a\nb", "a\n", "\na", "\r\n", "a\rb", "\ufeff", "\ufeffa", "a\ufeff", "'\n'", "\x00", "a\x07", "\x7f", "\u0080"} {
		checkNot(t, points(s))
	}
}

// TestWriteAll: P801: every short text of the signs that matter is read again, or nothing is written of it.
func TestWriteAll(t *testing.T) {
	eachRow([]string{"'", " ", "\t", "a", "\n", "\ufeff"}, 6, func(row []string) {
		s := strings.Join(row, "")
		if strings.ContainsAny(s, "\n\ufeff") {
			checkNot(t, points(s))
			return
		}
		checkBack(t, points(s))
		if got, want := text(Write(points(s))), "'"+strings.ReplaceAll(s, "'", "''")+"'"; got != want {
			t.Errorf("P801: Write of %q: %q, not %q", s, got, want)
		}
	})
}

// call is one of the package's calls, of lines; all that it answers as one list.
type call struct {
	name string
	do   func(l [][]int) []int
}

// calls answers Read, Write of the first line, and End and May of each line.
func calls() []call {
	return []call{
		{"Read", Read},
		{"Write", func(l [][]int) []int {
			if len(l) == 0 {
				return Write(nil)
			}
			return Write(l[0])
		}},
		{"End and May", func(l [][]int) []int {
			var out []int
			for _, line := range l {
				at, ok := End(line)
				if !ok {
					at = -1
				}
				out = append(out, at)
				if May(line) {
					out = append(out, 1)
				}
			}
			return out
		}},
	}
}

// rows are lines of each kind, on which the promises of memory are tried.
func rows() [][]string {
	return [][]string{{"a"}, {""}, {" "}, {" a "}, {"'"}, {"''"}, {"'''"}, {"it''s'"}, {"a", "b"}, {"a ", "\tb"}, {"a'", "'b"}, {"''", "''", ""}, {"", "a", ""}, {" '' ", "", "'", " ", "c", "d''", " e "}, {"a\nb"}, {"\ufeff", "'\r"}, {"abcdefgh"}}
}

// TestNilAndEmpty: P802: nil and an empty list mean the same, as the lines and as each line.
func TestNilAndEmpty(t *testing.T) {
	nones := [][]int{nil, {}, make([]int, 0, 5), points("abc")[3:], points("'\n'")[:0]}
	for _, l := range [][][]int{nil, {}, make([][]int, 0, 3), lines("'")[:0]} {
		if got := Read(l); len(got) != 0 {
			t.Errorf("P802: Read of no lines: %v", got)
		}
	}
	for _, none := range nones {
		checkEnd(t, none, -1)
		checkBack(t, none)
		if got := Write(none); !slices.Equal(got, []int{'\'', '\''}) {
			t.Errorf("P802: Write of nothing: %v", got)
		}
	}
	eachRow([]string{"", "a", " ''"}, 5, func(row []string) {
		want := otherRead(row)
		for _, none := range nones {
			l := lines(row...)
			for i := range l {
				if len(l[i]) == 0 {
					l[i] = none
				}
			}
			if got := Read(l); text(got) != want {
				t.Errorf("P802: Read of %q: %q, not %q", row, text(got), want)
			}
		}
	})
}

// spoil writes over all of l, its spare room too.
func spoil(l []int) {
	l = l[:cap(l)]
	for i := range l {
		l[i] = -7
	}
}

// TestTwice: P802: the same call tells the same, whatever was done with what it told before, and whatever was called between.
func TestTwice(t *testing.T) {
	for _, x := range calls() {
		for _, row := range rows() {
			l := lines(row...)
			first := x.do(l)
			want := slices.Clone(first)
			spoil(first)
			for range 2 {
				for _, other := range rows() {
					for _, y := range calls() {
						spoil(y.do(lines(other...)))
					}
				}
				got, second := x.do(l), x.do(lines(row...))
				if !slices.Equal(got, want) || !slices.Equal(second, want) {
					t.Errorf("P802: %s of %q: %v, then %v and %v", x.name, row, want, got, second)
				}
				spoil(got)
				if !slices.Equal(second, want) {
					t.Errorf("P802: %s of %q: two answers share memory", x.name, row)
				}
			}
		}
	}
}

// laid answers the lines of row as pieces of one list with room on all sides, and with spare lines behind them: the spare room of each one is the next one.
func laid(row []string) (room []int, all, l [][]int) {
	room = []int{1, '\'', 32}
	var ends []int
	for _, s := range row {
		room = append(room, points(s)...)
		ends = append(ends, len(room))
	}
	room = append(room, '\'', 32, '\'', 9, 4, 5, 6, 7)
	from := 3
	for _, end := range ends {
		all = append(all, room[from:end])
		from = end
	}
	all = append(all, points("x"), nil, points(" y"))
	return room, all, all[:len(row)]
}

// sameList tells whether a and b are one list: the same place, as long, with the same room.
func sameList(a, b []int) bool {
	if len(a) != len(b) || cap(a) != cap(b) {
		return false
	}
	return cap(a) == 0 || &a[:1][0] == &b[:1][0]
}

// TestUnchanged: P802: what is handed in stays as it is, the room around it too, and that room is not looked at.
func TestUnchanged(t *testing.T) {
	for _, x := range calls() {
		for _, row := range rows() {
			want := x.do(lines(row...))
			room, all, l := laid(row)
			keptRoom, keptAll := slices.Clone(room), slices.Clone(all)
			got := x.do(l)
			told := slices.Clone(got)
			spoil(got)
			if !slices.Equal(told, want) {
				t.Errorf("P802: %s of %q within a list: %v, not %v", x.name, row, told, want)
			}
			if !slices.Equal(room, keptRoom) || !slices.EqualFunc(all, keptAll, sameList) || text(all[len(row)]) != "x" || text(all[len(row)+2]) != " y" {
				t.Errorf("P802: %s of %q changed what it was given: %v, not %v", x.name, row, room, keptRoom)
			}
		}
	}
}

// TestOwnMemory: P802: what is told shares no memory with what was handed in, and hangs no more on it.
func TestOwnMemory(t *testing.T) {
	for _, x := range calls() {
		for _, row := range rows() {
			room, all, l := laid(row)
			got := x.do(l)
			want := slices.Clone(got)
			spoil(room)
			clear(all)
			if !slices.Equal(got, want) {
				t.Errorf("P802: %s of %q shares with what was handed in: %v, not %v", x.name, row, got, want)
			}
		}
	}
}

// TestMany: P801: no count of lines is too many, and no line too long.
func TestMany(t *testing.T) {
	const many = 1 << 20
	size := func(what string, l [][]int, want int) {
		t.Helper()
		if got := Read(l); len(got) != want {
			t.Errorf("P801: %s: %d code points, not %d", what, len(got), want)
		}
	}
	size("empty lines", make([][]int, many), many-2)
	size("lines of a quote", slices.Repeat(lines("'"), many), 2*many-1)
	size("quotes", lines(strings.Repeat("'", 2*many+1)), many+1)
	size("blanks", lines(strings.Repeat(" ", many), strings.Repeat("\t", many)), 1)
	checkEnd(t, points(strings.Repeat("'", 2*many)), -1)
	checkEnd(t, points(strings.Repeat("'", 2*many+1)), 2*many)
	checkEnd(t, points(strings.Repeat("a''", many)+"b'c"), 3*many+1)
	checkBack(t, points(strings.Repeat("''a", many)))
	checkNot(t, append(points(strings.Repeat("'a", many)), 10))
}

// TestLeft: a loop over signs, or over what is written, may be left at each of them, and the same iterator may be ranged over again.
func TestLeft(t *testing.T) {
	places := []int{0, 1, 3, 4, 6, 8}
	all := signs(points("a''b''''c"))
	for stop := range places {
		var got []int
		for at := range all {
			got = append(got, at)
			if len(got) > stop {
				break
			}
		}
		if !slices.Equal(got, places[:stop+1]) {
			t.Errorf("signs up to %d: %v, not %v", stop, got, places[:stop+1])
		}
	}
	want := points("a''b''''")
	told := written(points("a'b''"))
	for stop := range want {
		var got []int
		for c := range told {
			got = append(got, c)
			if len(got) > stop {
				break
			}
		}
		if !slices.Equal(got, want[:stop+1]) {
			t.Errorf("written up to %d: %q, not %q", stop, text(got), text(want[:stop+1]))
		}
	}
}
