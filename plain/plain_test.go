package plain

import (
	"math"
	"regexp"
	"slices"
	"strings"
	"testing"
	"unicode/utf8"
)

// points tells the code points of s.
func points(s string) []int {
	var l []int
	for _, c := range s {
		l = append(l, int(c))
	}
	return l
}

// told is what the package's calls tell of one line.
type told struct {
	begins   bool
	end, key int
}

// tell asks all three calls.
func tell(l []int, flow bool) told {
	return told{Begins(l, flow), End(l, flow), Key(l, flow)}
}

func checkBegins(t *testing.T, l []int, flow, want bool) {
	if got := Begins(l, flow); got != want {
		t.Helper()
		t.Errorf("P901: Begins of %v, flow %v: %v", l, flow, got)
	}
}

// checkEnd looks at End and Key. (A text ends by a ':' there just where a key is told: its place, or -1.)
func checkEnd(t *testing.T, l []int, flow bool, end, key int) {
	if got := End(l, flow); got != end {
		t.Helper()
		t.Errorf("P902: End of %v, flow %v: %d, not %d", l, flow, got, end)
	}
	if got := Key(l, flow); got != key {
		t.Helper()
		t.Errorf("P903: Key of %v, flow %v: %d, not %d", l, flow, got, key)
	}
}

// isFlow tells whether c is one of the document's list of chars.Flow.
func isFlow(c int) bool {
	return c == ',' || c == '[' || c == ']' || c == '{' || c == '}'
}

// span is numbers from first to last.
type span struct{ first, last int }

// isSafe is the document's word, by a list of its own.
func isSafe(c int, flow bool) bool {
	if flow && isFlow(c) {
		return false
	}
	for _, x := range [...]span{{33, 126}, {133, 133}, {160, 55295}, {57344, 65278}, {65280, 65533}, {65536, 1114111}} {
		if x.first <= c && c <= x.last {
			return true
		}
	}
	return false
}

// signList are chars.Sign's, as the document lists them.
func signList() []int {
	return points("-?:,[]{}#&*!|>'\"%@`")
}

// checkNumber: P901 to P903: c at each place where it matters whether it is safe.
func checkNumber(t *testing.T, c int, flow bool) {
	safe := isSafe(c, flow)
	checkBegins(t, []int{c}, flow, safe && (c > 126 || !slices.Contains(signList(), c)))
	for _, first := range []int{'-', '?', ':'} {
		checkBegins(t, []int{first, c}, flow, safe)
	}
	inFlow := flow && isFlow(c)
	switch {
	case !safe:
		checkEnd(t, []int{'a', ':', c}, flow, 1, 1)
		checkEnd(t, []int{':', c, 'a'}, flow, 0, 0)
	case c == ':':
		checkEnd(t, []int{'a', ':', c}, flow, 2, 2)
	default:
		checkEnd(t, []int{'a', ':', c}, flow, 3, -1)
		checkEnd(t, []int{':', c, 'a'}, flow, 3, -1)
	}
	switch {
	case inFlow:
		checkEnd(t, []int{'a', c, 'b'}, flow, 1, -1)
		checkEnd(t, []int{c, 'b'}, flow, 0, -1)
	case c == 9 || c == 32:
		checkEnd(t, []int{'a', c, '#'}, flow, 1, -1)
		checkEnd(t, []int{'a', c}, flow, 1, -1)
	default:
		checkEnd(t, []int{'a', c, 'b'}, flow, 3, -1)
		checkEnd(t, []int{c, 'b'}, flow, 2, -1)
		checkEnd(t, []int{'a', c, 'b', ':'}, flow, 3, 3)
	}
	if c != 9 && c != 32 && !inFlow && c != ':' {
		checkEnd(t, []int{'a', c, '#'}, flow, 3, -1)
		checkEnd(t, []int{'a', ' ', c, ' '}, flow, wantBehind(c), -1)
	}
}

// wantBehind: where `a`, a blank, c and a blank end: a '#' there ends the text, each other one belongs to it.
func wantBehind(c int) int {
	if c == '#' {
		return 1
	}
	return 3
}

// TestSafe: P901 to P903: what the document names, the borders of what is printed, and numbers that are no code points.
func TestSafe(t *testing.T) {
	list := []int{0, 7, 8, 9, 10, 11, 12, 13, 14, 27, 31, 32, 33, 126, 127, 128, 132, 133, 134, 159, 160, 8232, 8233, 55295, 55296, 56319, 56320, 57343, 57344, 65278, 65279, 65280, 65533, 65534, 65535, 65536, 1114110, 1114111, 1114112}
	list = append(list, signList()...)
	for _, c := range signList() {
		list = append(list, -c, c+128, c+256, c-256, c+1<<16, c+1<<32, c-1<<32, math.MinInt+c)
	}
	list = append(list, -1, -9, -10, -32, 9+256, 9-256, 32+1<<32, 32-256, 9+1<<32, 97+1<<32, 97-1<<32, 1<<21, 1<<31, math.MaxInt32, math.MinInt32, math.MaxInt, math.MaxInt-1, math.MinInt)
	for _, c := range list {
		checkNumber(t, c, false)
		checkNumber(t, c, true)
	}
}

// TestEach: P901 to P903: each number from below the code points to beyond them.
func TestEach(t *testing.T) {
	for c := -300; c < 1114412; c++ {
		checkNumber(t, c, false)
		checkNumber(t, c, true)
	}
}

// TestBegins: P901: nothing, a first one of each kind, each sign, and what stands behind it.
func TestBegins(t *testing.T) {
	for s, want := range map[string]struct{ block, flow bool }{
		"": {}, "a": {true, true}, "a b": {true, true}, "0": {true, true}, "~": {true, true}, "é": {true, true}, "😀": {true, true}, "\u0085": {true, true}, "\u00a0a": {true, true}, ".": {true, true}, "+1": {true, true}, "\\": {true, true}, "/a": {true, true}, "a:": {true, true}, "a,": {true, true}, "a\x07": {true, true}, "^": {true, true}, "<<": {true, true}, "=": {true, true}, "$": {true, true}, "(": {true, true}, ";": {true, true}, "_": {true, true},
		" ": {}, "\t": {}, " a": {}, "\ta": {}, "\n": {}, "\na": {}, "\r": {}, "\ra": {}, "\ufeff": {}, "\ufeffa": {}, "\x00a": {}, "\x07a": {}, "\x7fa": {}, "\u0080a": {}, "\ufffea": {},
	} {
		checkBegins(t, points(s), false, want.block)
		checkBegins(t, points(s), true, want.flow)
	}
	for _, c := range signList() {
		may := c == '-' || c == '?' || c == ':'
		for _, flow := range []bool{false, true} {
			checkBegins(t, []int{c}, flow, false)
			for _, behind := range []int{'a', 'é', 133, '#', '"', '%', ':', '-', '?'} {
				checkBegins(t, []int{c, behind}, flow, may)
				checkBegins(t, []int{c, behind, ' '}, flow, may)
				checkBegins(t, []int{c, behind, ','}, flow, may)
			}
			for _, behind := range []int{' ', 9, 10, 13, 7, 127, 65279, 55296, -1, 1114112} {
				checkBegins(t, []int{c, behind}, flow, false)
				checkBegins(t, []int{c, behind, 'a'}, flow, false)
			}
			for _, behind := range points(",[]{}") {
				checkBegins(t, []int{c, behind}, flow, may && !flow)
				checkBegins(t, []int{c, behind, 'a'}, flow, may && !flow)
			}
		}
	}
}

// want is where a text ends, and the place of its ':', without flow and with it.
type want struct{ end, key, flowEnd, flowKey int }

// both: with flow and without, the same.
func both(end, key int) want { return want{end, key, end, key} }

func checkWant(t *testing.T, s string, w want) {
	t.Helper()
	checkEnd(t, points(s), false, w.end, w.key)
	checkEnd(t, points(s), true, w.flowEnd, w.flowKey)
}

// TestColon: P902, P903: a ':' at the first place, within and at the line's end, with each kind behind it, and with blanks ahead of it.
func TestColon(t *testing.T) {
	for s, w := range map[string]want{
		"": both(0, -1), "a": both(1, -1), "abc": both(3, -1), "a b c": both(5, -1), "a b: c": both(3, 3), "http://a.b": both(10, -1),
		":": both(0, 0), ": ": both(0, 0), ":\t": both(0, 0), ": a": both(0, 0), ":a": both(2, -1), ":a:": both(2, 2), "::": both(1, 1), ":::": both(2, 2), ":: a": both(1, 1), "::a": both(3, -1), ":#": both(2, -1), ": #": both(0, 0), ":\x07": both(0, 0), ":\n": both(0, 0), ":\u0085": both(2, -1),
		"a:b": both(3, -1), "a: b": both(1, 1), "a:\tb": both(1, 1), "a::b": both(4, -1), "a:: b": both(2, 2), "a:#b": both(4, -1), "a:# b": both(5, -1), "a:\x07b": both(1, 1), "a:\rb": both(1, 1), "a:\ufeffb": both(1, 1), "a:\"b\"": both(5, -1),
		"a:": both(1, 1), "a::": both(2, 2), "a: ": both(1, 1), "a:\t ": both(1, 1), "a b:": both(3, 3), "é😀: x": both(2, 2),
		"a :": both(1, 2), "a : b": both(1, 2), "a\t:": both(1, 2), "a \t  : b": both(1, 5), "a :b": both(4, -1), "a b  :": both(3, 5), " :": both(0, 1), "  : a": both(0, 2), "\t:a": both(3, -1), " a : b": both(2, 3),
		"a: b: c": both(1, 1), "a:b: c": both(3, 3), "a:b:c": both(5, -1), "a:b:c:": both(5, 5), "a:b :c : d": both(6, 7),
		"a #: b": both(1, -1), "a # b: c": both(1, -1), "a# b: c": both(4, 4), "# a: b": both(3, 3), "a: #b": both(1, 1), "a :#b: c": both(5, 5), "a : #": both(1, 2),
		"a,b: c": {3, 3, 1, -1}, "a [b: c": {4, 4, 1, -1}, "a:,b": {4, -1, 1, 1}, "a:, b": {5, -1, 1, 1}, ":,": {2, -1, 0, 0}, "a:[": {3, -1, 1, 1}, "a:]": {3, -1, 1, 1}, "a:{": {3, -1, 1, 1}, "a:}": {3, -1, 1, 1}, "a :}": {4, -1, 1, 2}, "a::]": {4, -1, 2, 2}, "a:b,c:": {5, 5, 3, -1}, "a: b,c": both(1, 1),
	} {
		checkWant(t, s, w)
	}
}

// TestRemark: P902, P903: a '#' at the first place, behind a blank and behind another sign.
func TestRemark(t *testing.T) {
	for s, w := range map[string]want{
		"#": both(1, -1), "#a": both(2, -1), "# a": both(3, -1), "##": both(2, -1), "# #": both(1, -1), "#\t#": both(1, -1), "# a #b": both(3, -1),
		"a #": both(1, -1), "a #b": both(1, -1), "a\t#b": both(1, -1), "a \t #b": both(1, -1), "a  # b": both(1, -1), "a b #c #d": both(3, -1), " #": both(0, -1), "\t#": both(0, -1), " \t #a": both(0, -1), "  #: a": both(0, -1),
		"a#": both(2, -1), "a#b": both(3, -1), "a##": both(3, -1), "a#b #c": both(3, -1), "a'#": both(3, -1), "a\x07#": both(3, -1), "a\n#": both(3, -1), "a\u00a0#": both(3, -1), "a\u3000#b": both(4, -1), "é #": both(1, -1),
		"a # ": both(1, -1), "a# ": both(2, -1), "a,#": {3, -1, 1, -1}, "a #,": both(1, -1), "a , #": {3, -1, 1, -1}, "#,": {2, -1, 1, -1},
	} {
		checkWant(t, s, w)
	}
}

// TestFlow: P902, P903: one of chars.Flow at each place, with blanks ahead of it and without.
func TestFlow(t *testing.T) {
	for _, c := range []string{",", "[", "]", "{", "}"} {
		for _, text := range []string{"abcd", "a b\tc", "é😀x", "-a-"} {
			size := utf8.RuneCountInString(text)
			for at := range text {
				s := text[:at] + c + text[at:]
				ahead := utf8.RuneCountInString(strings.TrimRight(text[:at], " \t"))
				checkWant(t, s, want{size + 1, -1, ahead, -1})
				checkWant(t, s+" : b", want{size + 1, size + 2, ahead, -1})
			}
			for _, blanks := range []string{"", " ", "\t", " \t  "} {
				checkWant(t, text+blanks+c, want{size + len(blanks) + 1, -1, size, -1})
				checkWant(t, blanks+c+text, want{size + len(blanks) + 1, -1, 0, -1})
			}
		}
		checkWant(t, c, want{1, -1, 0, -1})
		checkWant(t, c+c, want{2, -1, 0, -1})
		checkWant(t, c+":", want{1, 1, 0, -1})
		checkWant(t, ":"+c, want{2, -1, 0, 0})
	}
}

// TestBlanks: P902, P903: blanks ahead of each thing that ends a text, and at the line's end, do not belong to it; those within do.
func TestBlanks(t *testing.T) {
	for _, blanks := range []string{" ", "\t", "  ", " \t", "\t \t  "} {
		n := len(blanks)
		for _, text := range []string{"", "a", "a b", "a" + blanks + "b", "a\u00a0", "-", "'", "#", "a\x07", "a\n"} {
			size := len(points(text))
			checkWant(t, text+blanks, both(size, -1))
			checkWant(t, text+blanks+":", both(size, size+n))
			checkWant(t, text+blanks+": b", both(size, size+n))
			checkWant(t, text+blanks+"#", both(size, -1))
			checkWant(t, text+blanks+"# b: c", both(size, -1))
			checkWant(t, text+blanks+",", want{size + n + 1, -1, size, -1})
			checkWant(t, text+blanks+"b", both(size+n+1, -1))
			checkWant(t, text+blanks+":b"+blanks, both(size+n+2, -1))
		}
	}
}

// TestNotBegun: P902, P903: texts that do not begin there end by the same rules.
func TestNotBegun(t *testing.T) {
	for s, w := range map[string]want{
		"- a": both(3, -1), "-": both(1, -1), "- ": both(1, -1), "- a: b": both(3, 3), "? a": both(3, -1), "?": both(1, -1), "'a': b": both(3, 3), "\"a\" #b": both(3, -1), "&a b": both(4, -1), "*a : b": both(2, 3), "!a b": both(4, -1), "| #": both(1, -1), "> a": both(3, -1), "%a b": both(4, -1), "@a:": both(2, 2), "`a": both(2, -1), " a": both(2, -1), "\ta b ": both(4, -1), "\ufeffa:": both(2, 2), "\x00: a": both(1, 1), "\na #b": both(2, -1),
		"[a]": {3, -1, 0, -1}, "{a: b}": {2, 2, 0, -1}, ",": {1, -1, 0, -1}, "]: a": {1, 1, 0, -1}, "-,": {2, -1, 1, -1}, "- [a": {4, -1, 1, -1},
	} {
		checkBegins(t, points(s), true, false)
		checkBegins(t, points(s), false, s == "-,")
		checkWant(t, s, w)
	}
}

// The patterns are the document's words by another way: the first place, blanks ahead of it too, from which on one of the things that end a text stands.
var (
	blockEnds   = regexp.MustCompile(`[ \t]*(?:(:)(?:[ \t\x00-\x1f\x7f\x{feff}]|\z)|[ \t]#|\z)`)
	flowEnds    = regexp.MustCompile(`[ \t]*(?:(:)(?:[ \t\x00-\x1f\x7f\x{feff},\[\]{}]|\z)|[ \t]#|[,\[\]{}]|\z)`)
	blockBegins = regexp.MustCompile(`\A(?:[^-?:,\[\]{}#&*!|>'"%@\x60 \x00-\x1f\x7f\x{feff}]|[-?:][^ \x00-\x1f\x7f\x{feff}])`)
	flowBegins  = regexp.MustCompile(`\A(?:[^-?:,\[\]{}#&*!|>'"%@\x60 \x00-\x1f\x7f\x{feff}]|[-?:][^ \x00-\x1f\x7f\x{feff},\[\]{}])`)
)

// other: what is told of s, by the patterns.
func other(s string, flow bool) told {
	begins, ends := blockBegins, blockEnds
	if flow {
		begins, ends = flowBegins, flowEnds
	}
	at := ends.FindStringSubmatchIndex(s)
	key := -1
	if at[2] >= 0 {
		key = utf8.RuneCountInString(s[:at[2]])
	}
	return told{begins.MatchString(s), utf8.RuneCountInString(s[:at[0]]), key}
}

// eachText does it with every row of at most size of the signs.
func eachText(signs []string, size int, do func(s string)) {
	texts := []string{""}
	for range size + 1 {
		var longer []string
		for _, s := range texts {
			do(s)
			for _, c := range signs {
				longer = append(longer, s+c)
			}
		}
		texts = longer
	}
}

// TestAll: P901 to P903: every short line of the signs that matter, held against the patterns.
func TestAll(t *testing.T) {
	check := func(s string) {
		for _, flow := range []bool{false, true} {
			if got, want := tell(points(s), flow), other(s, flow); got != want {
				t.Errorf("P901 to P903: %q, flow %v: %v, not %v", s, flow, got, want)
			}
		}
	}
	eachText([]string{":", "#", " ", ",", "a"}, 7, check)
	eachText([]string{":", "#", " ", "\t", "]", "a", "-", "\x07", "\ufeff", "é"}, 4, check)
	eachText([]string{"-", "?", ":", ",", "[", "]", "{", "}", "#", "&", "*", "!", "|", ">", "'", "\"", "%", "@", "`", "a", " ", "\t", "\n", "\r"}, 3, check)
}

// lists are lines of each kind, on which the promises of memory are tried.
func lists() [][]int {
	var out [][]int
	for _, s := range []string{"a", "a b: c", "a  :", " ", " \t ", ":", "::", "#", "a #b", "a ,", "[a]", "- a", "-a", "?", "a \t", "é: x", "a\x07", "abcdefgh"} {
		out = append(out, points(s))
	}
	return append(out, []int{-1, ':', math.MaxInt}, []int{55296, 32, 1114112})
}

// TestNilAndEmpty: P904: nil and an empty list mean the same.
func TestNilAndEmpty(t *testing.T) {
	for _, none := range [][]int{nil, {}, make([]int, 0, 5), points("abc")[3:], points("a: b")[:0], points(": #")[:0], points("a ")[2:]} {
		for _, flow := range []bool{false, true} {
			if got := tell(none, flow); got != (told{false, 0, -1}) {
				t.Errorf("P904: of nothing, flow %v: %v", flow, got)
			}
		}
	}
}

// TestTwice: P904: the same call tells the same, whatever was called between, and in whatever order.
func TestTwice(t *testing.T) {
	for _, l := range lists() {
		for _, flow := range []bool{false, true} {
			first := tell(l, flow)
			for _, x := range lists() {
				tell(x, !flow)
				tell(x, flow)
				key, end, begins := Key(l, flow), End(l, flow), Begins(slices.Clone(l), flow)
				if again := (told{begins, end, key}); again != first {
					t.Errorf("P904: %v, flow %v: %v, then %v", l, flow, first, again)
				}
			}
		}
	}
}

// TestUnchanged: P904: what is handed in stays as it is, the room around it too, and that room is not looked at.
func TestUnchanged(t *testing.T) {
	for _, l := range lists() {
		for _, beside := range []int{32, 9, ':', '#', ',', 'a', 10, -7} {
			room := append([]int{beside, beside}, l...)
			room = append(room, beside, beside, beside)
			kept := slices.Clone(room)
			for _, flow := range []bool{false, true} {
				want := tell(slices.Clip(slices.Clone(l)), flow)
				if got := tell(room[2:2+len(l)], flow); got != want {
					t.Errorf("P904: %v within a list of %d, flow %v: %v, not %v", l, beside, flow, got, want)
				}
				if !slices.Equal(room, kept) {
					t.Fatalf("P904: %v, flow %v: changed what was handed in: %v, not %v", l, flow, room, kept)
				}
			}
		}
	}
}

// TestNotKept: P904: what is told of a list hangs on what stands in it now, not on what stood in it ahead.
func TestNotKept(t *testing.T) {
	room := make([]int, 20)
	for _, first := range lists() {
		for _, second := range lists() {
			for _, flow := range []bool{false, true} {
				tell(room[:copy(room, first)], flow)
				got := tell(room[:copy(room, second)], flow)
				if want := tell(second, flow); got != want {
					t.Errorf("P904: %v behind %v, flow %v: %v, not %v", second, first, flow, got, want)
				}
			}
		}
	}
}

// TestMany: P902, P903: no line is too long.
func TestMany(t *testing.T) {
	const many = 1 << 20
	for s, w := range map[string]want{
		strings.Repeat("a", many):              both(many, -1),
		strings.Repeat(" ", many):              both(0, -1),
		strings.Repeat(" ", many) + ":":        both(0, many),
		strings.Repeat(":", many):              both(many-1, many-1),
		strings.Repeat("#", many) + " #":       both(many, -1),
		strings.Repeat("a ", many):             both(2*many-1, -1),
		strings.Repeat("a b", many) + ": c":    both(3*many, 3*many),
		strings.Repeat("a:", many) + "b":       both(2*many+1, -1),
		"a" + strings.Repeat("\t", many) + "]": {many + 2, -1, 1, -1},
	} {
		checkMany(t, s, w)
	}
}

// checkMany is checkWant, without telling so long a line.
func checkMany(t *testing.T, s string, w want) {
	t.Helper()
	l := points(s)
	if got := (want{End(l, false), Key(l, false), End(l, true), Key(l, true)}); got != w {
		t.Errorf("P902, P903: %q.. of %d: %v, not %v", s[:3], len(l), got, w)
	}
}

// TestLeft: a loop over signs may be left at each of them, and the same iterator may be ranged over again.
func TestLeft(t *testing.T) {
	all := []sign{{lineEnd, 'a', ' '}, {'a', ' ', ':'}, {' ', ':', 'b'}, {':', 'b', lineEnd}}
	list := signs(points("a :b"))
	for stop := range all {
		var got []sign
		for at, s := range list {
			if at != len(got) {
				t.Errorf("signs: place %d, not %d", at, len(got))
			}
			got = append(got, s)
			if len(got) > stop {
				break
			}
		}
		if !slices.Equal(got, all[:stop+1]) {
			t.Errorf("signs up to %d: %v, not %v", stop, got, all[:stop+1])
		}
	}
}
