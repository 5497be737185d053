package parser

import (
	"math"
	"slices"
	"strconv"
	"strings"
	"testing"

	"marginalia/api"
	"marginalia/events"
)

// TestPlaces: P1401: which places there are, and with lead or without it.
func TestPlaces(t *testing.T) {
	l := all("--- a: b\n  c: d\n\n   \n...\n'e' #\nf")
	for _, x := range []struct {
		line, column int
		want         string
	}{
		{0, 0, "ErrSyntax"}, {0, 3, "ErrSyntax"}, {0, 4, "ErrSyntax"}, {0, 6, "ErrSyntax"}, {0, 7, "ErrSyntax"}, {0, 8, "< :c :d > @4"}, {0, 9, "ErrArg"}, {0, math.MaxInt, "ErrArg"}, {0, -1, "ErrArg"}, {0, math.MinInt, "ErrArg"},
		{1, 0, "< :c :d > @4"}, {1, 1, "ErrSyntax"}, {1, 2, "ErrSyntax"}, {1, 3, "ErrSyntax"}, {1, 4, ":d @4"}, {1, 5, ":d @4"}, {1, 6, ": @4"}, {1, 7, "ErrArg"},
		{2, 0, ": @4"}, {2, 1, "ErrArg"}, {3, 0, ": @4"}, {3, 1, ": @4"}, {3, 3, ": @4"}, {3, 4, "ErrArg"},
		{4, 0, "ErrSyntax"}, {4, 3, "ErrSyntax"}, {5, 0, "ErrSyntax"}, {5, 3, ":f @7"}, {5, 4, ":f @7"}, {5, 5, ":f @7"}, {5, 6, "ErrArg"}, {6, 0, ":f @7"}, {6, 1, ": @7"}, {6, 2, "ErrArg"},
		{7, 0, "ErrArg"}, {8, 0, "ErrArg"}, {-1, 0, "ErrArg"}, {math.MaxInt, 0, "ErrArg"}, {math.MinInt, 0, "ErrArg"}, {-1, -1, "ErrArg"}, {7, 7, "ErrArg"},
	} {
		if got := read(l, x.line, x.column); got != x.want {
			t.Errorf("P1401: at %d, %d: %s, not %s", x.line, x.column, got, x.want)
		}
	}
	for line := -2; line < 9; line++ {
		for column := -2; column < 12; column++ {
			holdAt(t, l, line, column)
		}
	}
	for _, x := range []struct {
		s      string
		column int
		want   string
	}{{"a#b", 1, "ErrSyntax"}, {"a #b", 1, ": @1"}, {"a #b", 2, ": @1"}, {"#b", 0, ": @1"}, {" #b", 1, ": @1"}, {"a#b", 2, ":b @1"}, {"a - b", 2, "ErrSyntax"}, {"a 'b'", 1, "'b @1"}, {"a |\nb", 2, "|b/ @2"}, {"a &x\n- b", 1, "&x ( :b ) @2"}, {"a &x b: c", 1, "ErrSyntax"}, {"a [b]", 1, "[ :b ] @1"}, {"a [b]: c", 2, "ErrSyntax"}, {"--- |\n a\n--- b", 3, "|a/ @2"}, {"---\ta\nb", 3, ":a_b @2"}, {"--- 'a\nb'", 3, "'a_b @2"}, {"--- [a,\nb]\n...", 3, "[ :a :b ] @2"}, {"--- *a", 3, "*a @1"}, {"---\n  - a\n - b", 3, "ErrIndent"}, {"---\n\n# c\n ? a\n : b", 3, "< :a :b > @5"}, {"---\n---", 3, ": @1"}, {"---\n...", 3, ": @1"}, {"--- # c", 3, ": @1"}, {"---\n\ta", 3, "ErrTab"}, {"---", 0, ":--- @1"}, {"...", 0, ":... @1"}, {"--- a", 0, ":---_a @1"}} {
		if got := read(all(x.s), 0, x.column); got != x.want {
			t.Errorf("P1401: %q at %d: %s, not %s", x.s, x.column, got, x.want)
		}
	}
}

// TestBehind: P1401: the line behind the node: none, a Marker, one with Indent 0 and one above it.
func TestBehind(t *testing.T) {
	for s, want := range map[string]string{"'a'": "'a", "[]": "[ ]", "*a": "*a", "a # c": ":a", "- 'a'": "( 'a )", "a: 'b'": "< :a 'b >", "? 'a'": "< 'a : >", "a: |\n  b": "< :a |b/ >", "&x 'a'": "&x 'a", "-": "( : )", "a: &x": "< :a &x : >"} {
		size := len(all(s))
		for behind, more := range map[string]int{"": 0, "\n": 1, "\n\n\n": 3, "\n# c": 1, "\n\t# c\n": 2, "\n---": 0, "\n...": 0, "\n--- a: b": 0, "\n...\t# c": 0, "\n\n# c\n...": 2, "\n---\nx: y\n  z": 0, "\n...\n'": 0} {
			line := size
			if more > 0 || behind == "" {
				line += more
			}
			check(t, s+behind, want+" @"+strconv.Itoa(line))
			l := all("x\ny: z\n" + s + behind)
			if got := read(l, 2, 0); got != want+" @"+strconv.Itoa(line+2) {
				t.Errorf("P1401: %q behind two lines: %s", s+behind, got)
			}
		}
		for _, behind := range []string{"b", "'b'", "[]", "----", "....", "]", "%a", "\n\nb", "# c\nb", "&y", "|"} {
			check(t, s+"\n"+behind, "ErrSyntax")
		}
		check(t, s+"\n\tb", "ErrTab")
	}
	checkWrong(t, "ErrIndent", "'a'\n b", "[]\n   ---", "*a\n ...", "'a'\n\n# c\n b", "|\n  a\n b", "a # c\n b: c", "  'a'\n b", "{}\n ]")
	checkWrong(t, "ErrSyntax", "'a'\nb: c", "[]\n- a", "*a\n? b", "a # c\nb: c", "  'a'\nb", " - a\n- b", " a: b\nc: d")
}

// TestDeep: P1401: MaxDepth collections in each other, and one more.
func TestDeep(t *testing.T) {
	deep := func(count int, begin, end string) string { return strings.Repeat(begin, count) + end }
	for _, x := range []struct {
		begin, end string
		within     int // collections in the end
	}{
		{"- ", "a", 0}, {"- ", "", 0}, {"? ", "a", 0}, {"? ", "", 0}, {"- ? ", "a", 0}, {"? - ", "a", 0}, {"- ", "[]", 1}, {"- ", "{}", 1}, {"- ", "[[]]", 2}, {"- ", "[a: b]", 2}, {"- ", "a: b", 1}, {"- ", "a:", 1}, {"- ", "a: []", 2}, {"- ", "a: [b]", 2}, {"- ", "[a]: b", 2}, {"- ", "[[a]]: b", 3}, {"- ", "[]: {}", 2}, {"- ", "? [a]", 2}, {"? ", "a: b", 1}, {"? ", "[]: a", 2}, {"- ", "{a: {}}", 2}, {"- ", "? - a", 2}, {"- ", "|", 0}, {"- ", "&x", 0}, {"- ", "*x", 0}, {"- ", "'a'", 0}, {"- ", "&x a: b", 1}, {"- ", "&x []", 1}, {"- ", "-", 1}, {"- ", "?", 1}, {"- ", "{a}: b", 2},
	} {
		for total := api.MaxDepth - 3; total < api.MaxDepth+4; total++ {
			count := total - x.within
			if len(x.begin) == 4 {
				count /= 2
			}
			depth := count*len(x.begin)/2 + x.within
			s := deep(count, x.begin, x.end)
			list, line, e := Node(all(s), 0, 0)
			row := slices.Concat([]api.Event{{Kind: api.EDoc}}, list, []api.Event{{Kind: api.EDone}})
			switch {
			case depth > api.MaxDepth && (e != api.ErrDeep || list != nil || line != 0):
				t.Errorf("P1401: %d of %q and %q: %v", count, x.begin, x.end, e)
			case depth <= api.MaxDepth && (e != api.OK || events.Depth(row) != depth || line != 1):
				t.Errorf("P1401: %d of %q and %q: %v, %d deep", count, x.begin, x.end, e, events.Depth(row))
			}
			holdAt(t, all(s), 0, 0)
		}
	}
}

// nested is a text of so many mappings or sequences, each on lines of its own.
func nested(count int, sign string) string {
	var b strings.Builder
	for indent := range count {
		b.WriteString(strings.Repeat(" ", indent) + sign + "\n")
	}
	return b.String() + strings.Repeat(" ", count) + "a"
}

// TestDeepLines: P1401: collections in each other over many lines, and such that stand side by side.
func TestDeepLines(t *testing.T) {
	for _, sign := range []string{"-", "a:", "?", "- &x", "a: !t", "? # c"} {
		for count := api.MaxDepth - 2; count < api.MaxDepth+3; count++ {
			_, line, e := Node(all(nested(count, sign)), 0, 0)
			if want := api.ErrDeep; count > api.MaxDepth && e != want || count <= api.MaxDepth && (e != api.OK || line != count+1) {
				t.Errorf("P1401: %d of %q: %v, %d", count, sign, e, line)
			}
		}
	}
	// A sequence at its key's column counts as any other one.
	s := strings.Repeat("- ", api.MaxDepth-2) + "a:\n" + strings.Repeat(" ", 2*api.MaxDepth-4) + "- "
	check(t, s+"b", strings.Repeat("( ", api.MaxDepth-2)+"< :a ( :b ) >"+strings.Repeat(" )", api.MaxDepth-2))
	checkWrong(t, "ErrDeep", s+"- b", s+"b: c", s+"[]", s+"? b")
	// What was closed does not count.
	wide := strings.Repeat("- - - a: [{}]\n", 3*api.MaxDepth)
	check(t, wide+"- b", "( "+strings.Repeat("( ( < :a [ { } ] > ) ) ", 3*api.MaxDepth)+":b )")
	for _, s := range []string{deepOne + "a: - b", deepOne + "a: b: c", deepOne + "a: ? b"} {
		check(t, s, "ErrSyntax") // what may not begin there is told ahead of how deep it would be
	}
	checkWrong(t, "ErrDeep", deepOne+"- - b", deepOne+"[[]]: b: c", deepOne+"a: []]", deepOne+"a:\n"+strings.Repeat(" ", 2*api.MaxDepth)+"- ]", deepOne+"? &x\n"+strings.Repeat(" ", 2*api.MaxDepth)+"- ]")
	checkWrong(t, "ErrSyntax", deepOne+"? &x -", deepOne+"a: &x -", deepOne+"a: &x &y []", deepOne+"a: ]", deepOne+"- ]: b: c")
}

// deepOne has room for one more collection behind it.
var deepOne = strings.Repeat("- ", api.MaxDepth-1)

// TestTwoErrors: P1402: the first error that is met is told.
func TestTwoErrors(t *testing.T) {
	checkAll(t, map[string]string{
		"a: 'b'\n\tc\n d: e": "ErrTab", "a: 'b'\n c\n\td": "ErrIndent", "a: 'b' c\n\td": "ErrSyntax", "a: 'b' c\n d: e": "ErrSyntax", "a: >x\n\tb": "ErrSyntax", "a: >\n   \n b\n\tc": "ErrIndent", "a: \"\\ud800\"\n\tb": "ErrChar", "a: \"\\ud800\" b": "ErrChar", "a: \"\\ud800\n b\n\tc\"": "ErrIndent",
		"- \"\\z\"\n- \"\\ud800\"": "ErrSyntax", "- \"\\ud800\"\n- \"\\z\"": "ErrChar", "- a\n- \"\\ud800\"\n\t-": "ErrChar", "- [a,\nb]\n- \"\\z\"": "ErrIndent", "- 'a'\n  b\nc": "ErrIndent", "- 'a'\nb\n  c": "ErrSyntax", "a: b\nc\n\td": "ErrSyntax", "a:\n\tb\nc": "ErrTab", "a: b: c\n\td": "ErrSyntax", "&x &y \"\\ud800\"": "ErrSyntax", "&x\n\t&y": "ErrTab", "&x\n&y \"\\ud800\"": "ErrSyntax", "&x \"\\ud800\" b": "ErrChar", "&x\n*a\n b": "ErrSyntax", "? \"\\ud800\"\n\t: b": "ErrChar", "? 'a'\n\t: \"\\z\"": "ErrTab", "? 'a'\n : \"\\z\"": "ErrIndent", "? a\n: \"\\ud800\"\n b": "ErrChar", "'a'\n\tb\nc": "ErrTab", "'a'\n b\n\tc": "ErrIndent", "'a' b\n c": "ErrSyntax", "a: |x\n   \n b": "ErrSyntax", "\"\\z\": \"\\ud800\"": "ErrSyntax", "\"\\ud800\": \"\\z\"": "ErrChar", "- \"\\ud800\": a\n b": "ErrChar", "[\"\\ud800\", }": "ErrChar", "[}, \"\\ud800\"]": "ErrSyntax", "a: [b\n]\nc: \"\\ud800\"": "ErrIndent", "- - 'a'\n\t- b\n c": "ErrTab", "a:\n- \"\\ud800\"\nb": "ErrChar", "a:\n- 'b'\nc\n\td": "ErrSyntax",
	})
	check(t, strings.Repeat("- ", api.MaxDepth+1)+"\"\\ud800\"", "ErrDeep")
	check(t, "- \"\\ud800\"\n"+strings.Repeat("- ", api.MaxDepth+1), "ErrChar")
	check(t, "- a\n"+strings.Repeat("- ", api.MaxDepth+1)+"\n\tb", "ErrDeep")
	for _, e := range []string{"\"\\ud800\"", "\"\\z\"", ">x"} {
		for at, place := range [][2]int{{1, 0}, {0, 99}, {-1, 0}, {0, -1}} {
			if got := read(all(e), place[0], place[1]); got != "ErrArg" {
				t.Errorf("P1402: %q, %d: %s", e, at, got)
			}
		}
	}
}

// far are numbers beyond all others.
func far() []int {
	return []int{math.MinInt, math.MinInt + 1, math.MaxInt - 1, math.MaxInt}
}

// TestFarIndent: P1401: Indents beyond all others are held against each other as any are, and are not gone through one by one.
func TestFarIndent(t *testing.T) {
	const most = math.MaxInt
	line := func(indent int, s string) api.Line { return api.Line{Indent: indent, Text: points(s)} }
	for i, x := range []struct {
		l    []api.Line
		want string
	}{
		{[]api.Line{line(most, "a")}, ":a @1"}, {[]api.Line{line(most, "a: b"), line(most, "c: d")}, "< :a :b :c :d > @2"}, {[]api.Line{line(most, "- a"), line(most, "- b")}, "( :a :b ) @2"}, {[]api.Line{line(most, "- - a"), line(most, "- b")}, "( ( :a ) :b ) @2"}, {[]api.Line{line(most, "- a: b"), line(most, "- c")}, "( < :a :b > :c ) @2"}, {[]api.Line{line(most, "- a:"), line(most, "- c")}, "( < :a : > :c ) @2"}, {[]api.Line{line(most, "a:"), line(most, "- b")}, "< :a ( :b ) > @2"}, {[]api.Line{line(most, "- - - a"), line(most, "b")}, "ErrSyntax"}, {[]api.Line{line(most, "- ? a"), line(most, ": b")}, "ErrSyntax"}, {[]api.Line{line(most, "? ? a"), line(most, ": b")}, "< < :a : > :b > @2"}, {[]api.Line{line(most, "- - |"), line(most, "- b")}, "( ( | ) :b ) @2"}, {[]api.Line{line(most, "- 'a"), line(most, "b'")}, "ErrIndent"}, {[]api.Line{line(most-1, "- 'a"), line(most, "b'")}, "( 'a_b ) @2"}, {[]api.Line{line(most-2, "- - a"), line(most, "- b")}, "( ( :a :b ) ) @2"}, {[]api.Line{line(most-3, "- - a"), line(most, "- b")}, "( ( :a_-_b ) ) @2"}, {[]api.Line{line(most-3, "- - 'a'"), line(most, "- b")}, "ErrIndent"}, {[]api.Line{line(most-2, "- - a"), line(most-2, "- b")}, "( ( :a ) :b ) @2"},
		{[]api.Line{line(0, "a:"), line(most, "b")}, "< :a :b > @2"}, {[]api.Line{line(0, "a:"), line(1<<40, "b: |"), line(1<<40+1, "c")}, "< :a < :b |c/ > > @3"}, {[]api.Line{line(0, "'a'"), line(most, "b")}, "ErrIndent"},
		{[]api.Line{line(-1, "a: b"), line(0, "c: d")}, "< :a :b :c :d > @2"}, {[]api.Line{line(-5, "- a")}, "( :a ) @1"}, {[]api.Line{line(0, ""), line(-1, "a")}, "ErrSyntax"}, {[]api.Line{line(0, "a: b"), line(-1, "c: d")}, "ErrSyntax"}, {[]api.Line{line(0, "a:"), line(-1, "- b")}, "ErrSyntax"}, {[]api.Line{line(0, "-"), line(math.MinInt, "- b")}, "ErrSyntax"}, {[]api.Line{line(0, "'a'"), line(math.MinInt, "# b")}, "'a @2"}, {[]api.Line{line(0, "a"), line(-2, "b")}, "ErrSyntax"}, {[]api.Line{line(math.MinInt, "--- a"), line(0, "b")}, ":---_a_b @2"}, {[]api.Line{line(0, "|"), line(-3, "a")}, "ErrSyntax"},
	} {
		if got := read(x.l, 0, 0); got != x.want {
			t.Errorf("P1401: %d: %s, not %s", i, got, x.want)
		}
	}
	l := []api.Line{line(most, "ab")}
	for column, want := range map[int]string{0: ":ab @1", 1: ":ab @1", most - 1: ":ab @1", most: ":ab @1", -1: "ErrArg"} {
		if got := read(l, 0, column); got != want {
			t.Errorf("P1401: at %d: %s, not %s", column, got, want)
		}
	}
	l = []api.Line{line(math.MinInt, "ab")}
	for column, want := range map[int]string{0: ":ab @1", 1: ":b @1", 2: ": @1", 3: "ErrArg", most: "ErrArg"} {
		if got := read(l, 0, column); got != want {
			t.Errorf("P1401: at %d: %s, not %s", column, got, want)
		}
	}
}

// TestNumbers: P1401: what is no code point stands in texts as 65533, and begins nothing.
func TestNumbers(t *testing.T) {
	for _, c := range append(far(), -1, -32, -45, 55296, 57343, 1114112) {
		for s, want := range map[string]string{"a%b": ":a\ufffdb @1", "- a%": "( :a\ufffd ) @1", "a%: b": "< :a\ufffd :b > @1", "|\n%": "|\ufffd/ @2", "a: '%'": "< :a '\ufffd > @1", "%": "ErrSyntax", "- %": "ErrSyntax", "-%": "ErrSyntax", "a: %": "ErrSyntax", "a:%": "ErrSyntax", "a\n%": ":a_\ufffd @2", "'a'%": "ErrSyntax", "&%": "ErrSyntax", "'a'\n%": "ErrSyntax", "'a'\n %": "ErrIndent", "|%": "ErrSyntax", "-\n%": "ErrSyntax"} {
			l := all(s)
			for _, x := range l {
				for at := range x.Text {
					if x.Text[at] == '%' {
						x.Text[at] = c
					}
				}
			}
			if got := read(l, 0, 0); got != want {
				t.Errorf("P1401: %q with %d: %q, not %q", s, c, got, want)
			}
		}
	}
}

// TestLong: P1401: no text is too long: what is read is not gone through again and again.
func TestLong(t *testing.T) {
	t.Parallel()
	const count = 1 << 16
	for _, x := range []struct {
		begin, each, end string
		events           int // of each
	}{
		{"", "- a\n", "", 1}, {"", "-\n", "", 1}, {"", "a: b\n", "", 2}, {"", "? a\n", "", 2}, {"", "? a\n: b\n", "", 2}, {"", "a:\n", "", 2}, {"", "a:\n- b\n", "", 4}, {"", "- - a\n", "", 3}, {"", "- a: b\n  c: |\n    d\n", "", 6}, {"", "- &x\n", "", 1}, {"", "- [a]\n", "", 3}, {"", "- 'a'\n\n# c\n", "", 1}, {"a:\n", "  - b\n", "c: d", 1}, {"", "*a : &x !t\n\n  'b'\n", "", 2},
		{"- a", "\n", "- b", 0}, {"a: b", "\n# c", "\nd: e", 0}, {strings.Repeat("- ", api.MaxDepth), "\n#", "\n- b", 0}, {"a: |\n", "  b\n", "c: d", 0}, {"a:\n", "  b\n", "", 0}, {"- '", "\n a", "'", 0}, {"- ", " ", "a", 0}, {"- [", "a,\n ", "]", 0}, {"a: ", "b ", "", 0}, {"&x", " #\n", "a: b", 0}, {strings.Repeat("? ", api.MaxDepth), "\n\n", "", 0},
	} {
		s := x.begin + strings.Repeat(x.each, count) + x.end
		list, line, e := Node(all(s), 0, 0)
		if e != api.OK || line != len(all(s)) || x.events > 0 && len(list)/count != x.events {
			t.Errorf("P1401: long %q: %d, %d, %v", x.begin+x.each+x.end, len(list), line, e)
		}
	}
	// Of many documents each call looks at its own lines alone.
	l := slices.Repeat(all("---"), count)
	for line := range l {
		if _, behind, e := Node(l, line, 3); e != api.OK || behind != line+1 {
			t.Fatalf("P1401: document %d: %d, %v", line, behind, e)
		}
	}
}
