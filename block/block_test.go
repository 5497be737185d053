package block

import (
	"math"
	"regexp"
	"slices"
	"strconv"
	"strings"
	"testing"

	"marginalia/api"
	"marginalia/fold"
)

// points tells the code points of s.
func points(s string) []int {
	var l []int
	for _, c := range s {
		l = append(l, int(c))
	}
	return l
}

// line makes a line of s: the spaces ahead count.
func line(s string) api.Line {
	text := strings.TrimLeft(s, " ")
	return api.Line{Indent: len(s) - len(text), Text: points(text)}
}

// all makes lines.
func all(texts ...string) []api.Line {
	var l []api.Line
	for _, s := range texts {
		l = append(l, line(s))
	}
	return l
}

func checkHead(t *testing.T, l []int, want Header) {
	if h, at, e := Head(l); h != want || at != len(l) || e != api.OK {
		t.Helper()
		t.Errorf("P1001: Head of %v: %v, %d, %v, not %v", l, h, at, e, want)
	}
}

func checkNoHead(t *testing.T, l []int) {
	if h, at, e := Head(l); h != (Header{}) || at != 0 || e != api.ErrSyntax {
		t.Helper()
		t.Errorf("P1001: Head of %v: %v, %d, %v, not ErrSyntax", l, h, at, e)
	}
}

// TestSigns: P1001: each digit, each of - and +, alone, two of them, both, and in both orders.
func TestSigns(t *testing.T) {
	chomps := map[string]int{"": 0, "-": 1, "+": 2}
	for first, folded := range map[string]bool{"|": false, ">": true} {
		for chomp, number := range chomps {
			checkHead(t, points(first+chomp), Header{folded, number, 0})
			checkNoHead(t, points(first+"0"+chomp))
			checkNoHead(t, points(first+chomp+"0"))
			for digit := 1; digit <= 9; digit++ {
				sign := string(rune('0' + digit))
				checkHead(t, points(first+sign+chomp), Header{folded, number, digit})
				checkHead(t, points(first+chomp+sign), Header{folded, number, digit})
				checkNoHead(t, points(first+"0"+sign+chomp))
				checkNoHead(t, points(first+sign+"0"+chomp))
				for second := 0; second <= 9; second++ {
					checkNoHead(t, points(first+sign+string(rune('0'+second))+chomp))
					checkNoHead(t, points(first+chomp+sign+string(rune('0'+second))))
					checkNoHead(t, append(points(first+sign+"-"), '0'+second))
					checkNoHead(t, append(points(first+sign+"+"), '0'+second))
				}
			}
		}
		for _, two := range []string{"--", "++", "-+", "+-"} {
			checkNoHead(t, points(first+two))
			checkNoHead(t, points(first+"2"+two))
			checkNoHead(t, points(first+two+"2"))
			checkNoHead(t, points(first+two[:1]+"2"+two[1:]))
			checkNoHead(t, points(first+two+" "))
		}
	}
}

// TestBehind: P1001: what may stand behind the signs, and what may not.
func TestBehind(t *testing.T) {
	for signs, want := range map[string]Header{"|": {}, ">": {Folded: true}, "|-": {Chomp: 1}, ">+": {Folded: true, Chomp: 2}, "|3": {Indent: 3}, ">9": {Folded: true, Indent: 9}, "|1-": {Chomp: 1, Indent: 1}, ">+5": {true, 2, 5}} {
		for _, behind := range []string{"", " ", "\t", "  ", "\t\t", " \t", "\t ", " \t \t  ", " #", "\t#", "  #", " \t# ", " # a", " #a", " ##", " # # #", " #-", " #1", " #|", " #: a", " # é😀", " #\t", " #\n", " #\r a", " #\ufeff", " #\x00\x07", " # \"'"} {
			checkHead(t, points(signs+behind), want)
		}
		for _, behind := range []int{-1, math.MinInt, math.MaxInt, 55296, 1114112, 32 - 256} {
			checkHead(t, append(points(signs+" #"), behind), want)
			checkHead(t, append(points(signs+"\t# a"), behind, 'b'), want)
		}
		for _, behind := range []string{"#", "#a", "# a", "a", " a", "\ta", "  a #", " \ta", " a #b", " -", " +", " 1", " 0", " |", " >", "|", ">", "\n", " \n", "\r", " \r", "\n #", " \n#", "\ufeff", " \ufeff", "\u00a0", "\u00a0#", " \u00a0#", "\u3000 ", "\x00", " \x00", "\x0b", "\x0c", "\u0085", ":", ",", "&a", " &a", "'", "\"", "é", "😀"} {
			checkNoHead(t, points(signs+behind))
		}
	}
}

// TestFirst: P1001: nothing, and a first one that is neither | nor >.
func TestFirst(t *testing.T) {
	for _, s := range []string{"", "-", "+", "1", " ", "#", " #", "a", " |", "\t>", "a|", "-|", "1>", "\ufeff|", "\n|", "<", "\\", "/", "!", "}", "{", "~", "?", "=", "¦", "｜", "＞", "||", "|>", ">>", ">|"} {
		checkNoHead(t, points(s))
	}
}

// checkNumber: P1001: c at each place of a header.
func checkNumber(t *testing.T, c int) {
	digit, chomp := 0, 0
	switch {
	case '1' <= c && c <= '9':
		digit = c - '0'
	case c == '-':
		chomp = 1
	case c == '+':
		chomp = 2
	}
	blank := c == 9 || c == 32
	places := []struct {
		l    []int
		want Header
		may  bool
	}{
		{[]int{c}, Header{Folded: c == '>'}, c == '|' || c == '>'},
		{[]int{c, '2', '+'}, Header{c == '>', 2, 2}, c == '|' || c == '>'},
		{[]int{'|', c}, Header{false, chomp, digit}, blank || digit+chomp > 0},
		{[]int{'>', '4', c}, Header{true, chomp, 4}, blank || chomp > 0},
		{[]int{'|', '-', c}, Header{false, 1, digit}, blank || digit > 0},
		{[]int{'>', '-', '4', c}, Header{true, 1, 4}, blank},
		{[]int{'>', '4', '+', c}, Header{true, 2, 4}, blank},
		{[]int{'|', ' ', c}, Header{}, blank || c == '#'},
		{[]int{'|', 9, ' ', c, '#'}, Header{}, blank || c == '#'},
		{[]int{'|', c, '#'}, Header{}, blank},
		{[]int{'|', '+', c, '#', 'a'}, Header{Chomp: 2}, blank},
		{[]int{'|', ' ', '#', c}, Header{}, true},
		{[]int{'>', 9, '#', 'a', c, 'b'}, Header{Folded: true}, true},
	}
	for _, x := range places {
		if x.may {
			checkHead(t, x.l, x.want)
		} else {
			checkNoHead(t, x.l)
		}
	}
}

// TestEach: P1001: each number from below the code points to beyond them, and those that are like a sign in their last bits.
func TestEach(t *testing.T) {
	for c := -300; c < 1114412; c++ {
		checkNumber(t, c)
	}
	for _, c := range points("|>0123456789-+# \t") {
		for _, like := range []int{-c, c + 128, c + 256, c - 256, c + 1<<16, c + 1<<32, c - 1<<32, c + 1<<62, math.MinInt + c, math.MinInt + c + 48} {
			checkNumber(t, like)
		}
	}
	for _, c := range []int{1 << 21, 1 << 31, math.MaxInt32, math.MinInt32, math.MaxInt, math.MaxInt - 1, math.MinInt, math.MinInt + 1} {
		checkNumber(t, c)
	}
}

// heads is P1001 by another way.
var heads = regexp.MustCompile(`(?s)\A([|>])(?:([1-9]?)([-+]?)|([-+])([1-9]))(?:[ \t]+(?:#.*)?)?\z`)

// number tells where the sign stands among the signs, from 1 on; of none it tells 0.
func number(signs, sign string) int {
	if sign == "" {
		return 0
	}
	return 1 + strings.Index(signs, sign)
}

// TestAllHeads: P1001: every short line of the signs that matter, held against the pattern.
func TestAllHeads(t *testing.T) {
	signs := []string{"|", ">", "0", "1", "9", "-", "+", " ", "\t", "#", "a"}
	texts := []string{""}
	for range 7 {
		var longer []string
		for _, s := range texts {
			if m := heads.FindStringSubmatch(s); m == nil {
				checkNoHead(t, points(s))
			} else {
				checkHead(t, points(s), Header{m[1] == ">", number("-+", m[3]+m[4]), number("123456789", m[2]+m[5])})
			}
			if s == "" || strings.ContainsAny(s[:1], "|>") {
				for _, c := range signs {
					longer = append(longer, s+c)
				}
			}
		}
		texts = longer
	}
}

// read is what Read tells.
type read struct {
	text string
	took int
	e    api.Errno
}

func (r read) String() string {
	return strconv.Quote(r.text) + ", " + strconv.Itoa(r.took) + ", " + strconv.Itoa(int(r.e))
}

func tell(l []api.Line, h Header, n int) read {
	text, took, e := Read(l, h, n)
	return read{text, took, e}
}

func checkRead(t *testing.T, l []api.Line, h Header, n int, want read) {
	if got := tell(l, h, n); got != want {
		t.Helper()
		t.Errorf("P1002: Read of %v, %+v, %d: %v, not %v", l, h, n, got, want)
	}
}

// rows is a list of what Read is asked, and what it must tell.
type rows []struct {
	l    []api.Line
	h    Header
	n    int
	want read
}

func (list rows) check(t *testing.T) {
	t.Helper()
	for _, x := range list {
		checkRead(t, x.l, x.h, x.n, x.want)
	}
}

// The headers that keep all, without an Indent and with one.
func kept(indent int) Header   { return Header{Chomp: 2, Indent: indent} }
func folded(indent int) Header { return Header{Folded: true, Chomp: 2, Indent: indent} }

// wrong is what is told beside ErrIndent.
var wrong = read{"", 0, api.ErrIndent}

// TestVoid: P1002: no lines, and void ones alone, with Indents below, at and above n + 1.
func TestVoid(t *testing.T) {
	rows{
		{nil, Header{}, 0, read{}},
		{nil, kept(0), -1, read{}},
		{nil, kept(3), 5, read{}},
		{all(""), Header{}, 0, read{"", 1, 0}},
		{all(""), Header{Chomp: 1}, 0, read{"", 1, 0}},
		{all(""), kept(0), 0, read{"\n", 1, 0}},
		{all(""), folded(0), 0, read{"\n", 1, 0}},
		{all("   "), Header{}, -1, read{"", 1, 0}},
		{all("   "), kept(0), -1, read{"\n", 1, 0}},
		{all(" ", "  ", "   ", "    "), kept(0), 1, read{"\n\n\n\n", 4, 0}},
		{all("    ", "", "   "), kept(0), 1, read{"\n\n\n", 3, 0}},
		{all("    ", "", "   "), Header{}, 9, read{"", 3, 0}},
		{all(" ", "  ", "   ", "    "), kept(1), 1, read{"\n\n \n  \n", 4, 0}},
		{all(" ", "  ", "   ", "    "), kept(1), -1, read{"\n \n  \n   \n", 4, 0}},
		{all(" ", "  ", "   ", "    "), kept(1), 0, read{"\n \n  \n   \n", 4, 0}},
		{all("   ", " "), Header{Indent: 1}, 0, read{"  \n", 2, 0}},
		{all("   ", " "), Header{Indent: 1, Chomp: 1}, 0, read{"  ", 2, 0}},
		{all("   ", "    "), folded(2), 0, read{" \n  \n", 2, 0}},
	}.check(t)
}

// TestN: P1002: n below -1, -1, 0 and above, with Indent and without, and a first line below n, at it and above.
func TestN(t *testing.T) {
	for _, n := range []int{-1, -2, -7, math.MinInt32, math.MinInt} {
		rows{
			{all("a", "b"), Header{}, n, read{"a\nb\n", 2, 0}},
			{all(" a", "b"), Header{}, n, read{"a\n", 1, 0}},
			{all("a", " b"), Header{}, n, read{"a\n b\n", 2, 0}},
			{all(" a"), Header{Indent: 1}, n, read{"a\n", 1, 0}},
			{all("  a"), Header{Indent: 1}, n, read{" a\n", 1, 0}},
			{all("a"), Header{Indent: 1}, n, read{}},
			{all("   a", "  b", " c"), Header{Indent: 2}, n, read{" a\nb\n", 2, 0}},
			{all("", "a"), kept(0), n, read{"\na\n", 2, 0}},
			{all(" ", "a"), kept(0), n, wrong},
			{all(" ", "a"), kept(1), n, read{"\n", 1, 0}},
		}.check(t)
	}
	for n := range 12 {
		pad := func(more int) string { return strings.Repeat(" ", max(0, n+more)) }
		rows{
			{all(pad(-1) + "a"), kept(0), n, read{}},
			{all(pad(0) + "a"), kept(0), n, read{}},
			{all(pad(1) + "a"), kept(0), n, read{"a\n", 1, 0}},
			{all(pad(5)+"a", pad(6)+"b", pad(4)+"c"), kept(0), n, read{"a\n b\n", 2, 0}},
			{all(pad(5)+"a", pad(1)+"b"), kept(1), n, read{"    a\nb\n", 2, 0}},
			{all(pad(5)+"a", pad(0)+"b"), kept(1), n, read{"    a\n", 1, 0}},
			{all(pad(9)+"a", pad(8)+"b"), kept(9), n, read{"a\n", 1, 0}},
			{all(pad(8)+"a", pad(9)+"b"), kept(9), n, read{}},
			{all(pad(0), pad(1), pad(2), pad(0)+"a"), kept(0), n, read{"\n\n\n", 3, 0}},
			{all(pad(0), pad(1), pad(2), pad(1)+"a"), kept(0), n, wrong},
			{all(pad(0), pad(1), pad(2), pad(2)+"a"), kept(0), n, read{"\n\n\na\n", 4, 0}},
			{all(pad(0), pad(1), pad(2), pad(1)+"a"), kept(1), n, read{"\n\n \na\n", 4, 0}},
			{all(pad(0), pad(1), pad(2), pad(0)+"a"), kept(1), n, read{"\n\n \n", 3, 0}},
		}.check(t)
	}
}

// TestAhead: P1002: void lines ahead of the first one that is not, with a smaller, the same and a greater Indent.
func TestAhead(t *testing.T) {
	rows{
		{all("", "  a"), Header{}, 0, read{"\na\n", 2, 0}},
		{all(" ", "  a"), Header{}, 0, read{"\na\n", 2, 0}},
		{all("  ", "  a"), Header{}, 0, read{"\na\n", 2, 0}},
		{all("   ", "  a"), Header{}, 0, wrong},
		{all("   ", "", "  a"), Header{}, 0, wrong},
		{all("", "   ", "  a"), folded(0), 0, wrong},
		{all("", "    ", " ", "  a", "b"), Header{Chomp: 1}, 1, wrong},
		{all("   ", "  a"), Header{}, 2, read{"", 1, 0}}, // a stands at n: it does not belong to the text
		{all("   ", "  a"), kept(0), 3, read{"\n", 1, 0}},
		{all("  a", "   "), Header{}, 0, read{"a\n \n", 2, 0}},
		{all(" a", "   ", "  b"), Header{}, 0, read{"a\n  \n b\n", 3, 0}},
		{all("   ", "  a"), kept(1), 0, read{"  \n a\n", 2, 0}},
		{all("   ", "  a"), kept(2), 0, read{" \na\n", 2, 0}},
		{all("   ", "  a"), kept(3), 0, read{"\n", 1, 0}},
		{all("    ", "  a", "   b"), Header{Indent: 3}, 0, read{" \n", 1, 0}},
		{all(" ", "\ta"), Header{}, -1, wrong}, // a tab is no space ahead
		{all(" ", " \ta"), Header{}, -1, read{"\n\ta\n", 2, 0}},
	}.check(t)
}

// TestMarker: P1002: Markers first, within and behind void lines, with Indent and without.
func TestMarker(t *testing.T) {
	for _, m := range []string{"---", "...", "--- a", "... #a", "---\t", "...\tx"} {
		for _, n := range []int{-9, -1, 0, 2} {
			for indent := range 4 {
				rows{
					{all(m), kept(indent), n, read{}},
					{all(m, "a", "     b"), kept(indent), n, read{}},
					{all("", m, "     b"), kept(indent), n, read{"\n", 1, 0}},
					{all("", "", m), folded(indent), n, read{"\n\n", 2, 0}},
					{all("     a", m, "     b"), folded(5 - max(n, 0)), n, read{"a\n", 1, 0}},
					{all("     a", "", "  ", m), kept(0), n, read{"a\n\n\n", 3, 0}},
					{all("     a", "", m), Header{}, n, read{"a\n", 2, 0}},
				}.check(t)
			}
			checkRead(t, all("   ", " ", m, "     b"), kept(0), n, read{"\n\n", 2, 0})
			checkRead(t, all("     ", m, " b"), kept(0), n, read{"\n", 1, 0})
			checkRead(t, all("     ", m), kept(2), n, read{strings.Repeat(" ", 5-2-max(n, 0)) + "\n", 1, 0})
		}
		rows{
			{all("a", m, "b"), Header{}, -1, read{"a\n", 1, 0}},
			{all("", "a", "", m, "b"), kept(0), -1, read{"\na\n\n", 3, 0}},
			{all(" " + m), Header{}, -1, read{m + "\n", 1, 0}},
			{all(" "+m, m), Header{}, 0, read{m + "\n", 1, 0}},
			{all("a", " "+m, "b"), Header{}, -1, read{"a\n " + m + "\nb\n", 3, 0}},
			{all(" "+m, "a"), Header{Indent: 1}, -1, read{m + "\n", 1, 0}},
		}.check(t)
	}
	for _, s := range []string{"--", "----", "---a", "-", "..", "....", "...a", ".", "--.", "-- -", "\t---"} {
		checkRead(t, all(s, "b"), Header{}, -1, read{s + "\nb\n", 2, 0})
		checkRead(t, all("a", s, "b"), Header{}, -1, read{"a\n" + s + "\nb\n", 3, 0})
		checkRead(t, all(" ", s), Header{}, -1, wrong)
	}
}

// TestWithin: P1002: lines within whose Indent is below indent, at it and above; void ones within and at the end; each Chomp, Folded and not.
func TestWithin(t *testing.T) {
	for _, s := range []string{"a", "# a", "- a", "a: b", "\t", "\ta", "\t \t", "'", "|", "é", "\u00a0", "a "} {
		rows{
			{all("  x", " "+s, "  y"), Header{}, 0, read{"x\n", 1, 0}},
			{all("  x", s), Header{}, 0, read{"x\n", 1, 0}},
			{all("  x", "  "+s, "  y"), Header{}, 0, read{"x\n" + s + "\ny\n", 3, 0}},
			{all("  x", "    "+s, "  y"), Header{}, 0, read{"x\n  " + s + "\ny\n", 3, 0}},
			{all("  "+s, "   "+s, " x"), Header{}, 0, read{s + "\n " + s + "\n", 2, 0}},
		}.check(t)
	}
	within := all("  a", "", " ", "  ", "   ", "  b", "    c", "  d", "  e")
	rows{
		{within, Header{}, 0, read{"a\n\n\n\n \nb\n  c\nd\ne\n", 9, 0}},
		{within, Header{Folded: true}, 0, read{"a\n\n\n\n \nb\n  c\nd e\n", 9, 0}},
		{within, Header{Folded: true, Chomp: 1, Indent: 1}, 0, read{" a\n\n\n \n  \n b\n   c\n d\n e", 9, 0}},
		{all("  a", "", " ", "  ", "  b"), Header{Folded: true}, 0, read{"a\n\n\nb\n", 5, 0}},
	}.check(t)
	end := all("  a", "  b", "", " ", "  ", " c")
	rows{
		{end, Header{}, 0, read{"a\nb\n", 5, 0}},
		{end, Header{Chomp: 1}, 0, read{"a\nb", 5, 0}},
		{end, Header{Chomp: 2}, 0, read{"a\nb\n\n\n\n", 5, 0}},
		{end, Header{Folded: true}, 0, read{"a b\n", 5, 0}},
		{end, Header{Folded: true, Chomp: 1}, 0, read{"a b", 5, 0}},
		{end, Header{Folded: true, Chomp: 2}, 0, read{"a b\n\n\n\n", 5, 0}},
		{end, Header{Chomp: 3}, 0, read{"a\nb\n", 5, 0}},
		{end, Header{Folded: true, Chomp: -1}, 0, read{"a b\n", 5, 0}},
	}.check(t)
	above := all("  a", "", "   ", "", "     ", "", "b")
	rows{
		{above, Header{}, 0, read{"a\n\n \n\n   \n", 6, 0}},
		{above, Header{Chomp: 1}, 0, read{"a\n\n \n\n   ", 6, 0}},
		{above, Header{Chomp: 2}, 0, read{"a\n\n \n\n   \n\n", 6, 0}},
		{above, Header{Folded: true}, 0, read{"a\n\n \n\n   \n", 6, 0}},
	}.check(t)
}

// TestBytes: P1002: code points of one, two, three and four bytes, and numbers that are none, as UTF-8.
func TestBytes(t *testing.T) {
	for _, c := range []int{0, 9, 32, 127, 128, 'é', 2047, 2048, '€', 55295, 57344, 65279, 65533, 65535, 65536, '😀', 1114111} {
		l := []api.Line{{Indent: 1, Text: []int{'x', c, 'y'}}, {Indent: 3, Text: []int{c, 'é', c}}}
		s := string(rune(c))
		checkRead(t, l, Header{}, 0, read{"x" + s + "y\n  " + s + "é" + s + "\n", 2, 0})
		checkRead(t, l, Header{Folded: true, Chomp: 1}, 0, read{"x" + s + "y\n  " + s + "é" + s, 2, 0})
	}
	for _, c := range []int{-1, 55296, 57343, 1114112, 97 + 1<<32, 97 - 256, math.MaxInt, math.MinInt} {
		checkRead(t, []api.Line{{Indent: 1, Text: []int{'x', c}}, {Indent: 1, Text: []int{c}}}, Header{Folded: true}, 0, read{"x\ufffd \ufffd\n", 2, 0})
	}
}

// TestFar: P1002: numbers of any size.
func TestFar(t *testing.T) {
	const far = math.MaxInt
	void := func(indent int) api.Line { return api.Line{Indent: indent} }
	at := func(indent int) api.Line { return api.Line{Indent: indent, Text: []int{'a'}} }
	rows{
		{[]api.Line{at(far)}, kept(0), far, read{}},
		{[]api.Line{at(far)}, kept(0), far - 1, read{"a\n", 1, 0}},
		{[]api.Line{at(far)}, kept(0), -1, read{"a\n", 1, 0}},
		{[]api.Line{at(far), at(far - 1)}, kept(0), -1, read{"a\n", 1, 0}},
		{[]api.Line{at(far - 2), at(far), void(far - 1)}, kept(0), 0, read{"a\n  a\n \n", 3, 0}},
		{[]api.Line{void(far), at(far)}, kept(0), far, read{"\n", 1, 0}},
		{[]api.Line{void(far), at(far)}, kept(0), far - 1, read{"\na\n", 2, 0}},
		{[]api.Line{void(far), at(far - 1)}, kept(0), 7, wrong},
		{[]api.Line{void(far), at(2)}, kept(0), 2, read{"\n", 1, 0}},
		{[]api.Line{void(5), void(far), void(-far)}, kept(0), -1, read{"\n\n\n", 3, 0}},
		{[]api.Line{at(far)}, kept(1), far - 1, read{"a\n", 1, 0}},
		{[]api.Line{at(far)}, kept(2), far - 1, read{}},
		{[]api.Line{at(far)}, kept(1), far, read{}},
		{[]api.Line{at(far)}, kept(9), far, read{}},
		{[]api.Line{at(far)}, kept(far), far, read{}},
		{[]api.Line{at(far)}, kept(far), 0, read{"a\n", 1, 0}},
		{[]api.Line{at(far)}, kept(far), math.MinInt, read{"a\n", 1, 0}},
		{[]api.Line{at(far)}, kept(far - 2), -1, read{"  a\n", 1, 0}},
		{[]api.Line{at(far)}, kept(far), 1, read{}},
		{[]api.Line{void(far), void(3), at(far)}, kept(far), far, read{"\n\n", 2, 0}},
		{[]api.Line{at(12), at(11), at(10)}, kept(10), 1, read{" a\na\n", 2, 0}},
	}.check(t)
	for _, low := range []int{-1, -2, -300, math.MinInt32, math.MinInt + 1, math.MinInt} {
		for _, n := range []int{math.MinInt, -2, -1, 0, 3, far} {
			rows{
				{[]api.Line{at(low)}, kept(0), n, read{}},
				{[]api.Line{at(low)}, kept(1), n, read{}},
				{[]api.Line{void(low)}, kept(0), n, read{"\n", 1, 0}},
				{[]api.Line{void(low), at(far)}, kept(0), n, tell([]api.Line{void(0), at(far)}, kept(0), n)},
				{[]api.Line{void(far), at(low)}, kept(0), n, read{"\n", 1, 0}},
				{[]api.Line{at(far), at(low)}, kept(0), n, tell([]api.Line{at(far)}, kept(0), n)},
			}.check(t)
		}
		checkRead(t, []api.Line{at(0), void(low), at(0)}, kept(0), -1, read{"a\n\na\n", 3, 0})
	}
}

// TestNotDigits: P1002: a header may be told with other numbers than Head's: a greater Indent is that many, one below 0 is none.
func TestNotDigits(t *testing.T) {
	checkRead(t, all("              a"), kept(12), 1, read{" a\n", 1, 0})
	for _, low := range []int{-1, -9, math.MinInt} {
		for _, n := range []int{-1, 0, 1, 2, 3} {
			for _, l := range [][]api.Line{all("  a", " b"), all("   ", "  a"), all("", " "), all("a")} {
				checkRead(t, l, kept(low), n, tell(l, kept(0), n))
			}
		}
	}
}

// marker is lines.Marker's word by another way.
var marker = regexp.MustCompile(`\A(?:---|\.\.\.)(?:[ \t]|\z)`)

// other is P1002 by another way: of lines as they are written, spaces and all.
func other(texts []string, h Header, n int) read {
	n = max(n, -1)
	first := slices.IndexFunc(texts, func(s string) bool { return strings.Trim(s, " ") != "" })
	none := first < 0
	if none {
		first = len(texts)
	}
	longest := 0
	for _, s := range texts[:first] {
		longest = max(longest, len(s))
	}
	var indent int
	switch {
	case h.Indent > 0:
		indent = h.Indent + max(n, 0)
	case none || marker.MatchString(texts[first]) || !strings.HasPrefix(texts[first], strings.Repeat(" ", n+1)):
		indent = max(longest, n+1)
	default:
		indent = strings.IndexFunc(texts[first], func(c rune) bool { return c != ' ' })
		if longest > indent {
			return wrong
		}
	}
	var taken [][]int
	for _, s := range texts {
		ahead := strings.Repeat(" ", indent)
		rest, far := strings.CutPrefix(s, ahead)
		switch {
		case strings.HasPrefix(ahead, s):
			rest = ""
		case !far && strings.Trim(s, " ") != "", marker.MatchString(s):
			return read{join(taken, h), len(taken), 0}
		}
		taken = append(taken, points(rest))
	}
	return read{join(taken, h), len(taken), 0}
}

// join is a text's lines as one: fold.Block's, or those of fold.Literal by another way.
func join(taken [][]int, h Header) string {
	var out strings.Builder
	if h.Folded {
		for _, c := range fold.Block(taken, h.Chomp) {
			out.WriteRune(rune(c))
		}
		return out.String()
	}
	for _, l := range taken {
		for _, c := range l {
			out.WriteRune(rune(c))
		}
		out.WriteByte('\n')
	}
	text := strings.TrimRight(out.String(), "\n")
	switch {
	case h.Chomp == 2:
		return out.String()
	case h.Chomp == 1 || text == "":
		return text
	}
	return text + "\n"
}

// TestAllReads: P1002: every short row of the lines that matter, held against the other way.
func TestAllReads(t *testing.T) {
	check := func(texts []string) {
		l := all(texts...)
		for n := -2; n <= 2; n++ {
			for indent := range 3 {
				for chomp := range 3 {
					checkRead(t, l, Header{false, chomp, indent}, n, other(texts, Header{false, chomp, indent}, n))
					checkRead(t, l, Header{true, chomp, indent}, n, other(texts, Header{true, chomp, indent}, n))
				}
			}
		}
	}
	eachRow([]string{"", " ", "  ", "   ", "a", " b", "  c", "   é", "---", "... x", " ---", "\t", " \t", "  #"}, 4, check)
	eachRow([]string{"", "  ", " a", "  b", "---"}, 5, check)
}

// eachRow does it with every row of at most size of the texts.
func eachRow(texts []string, size int, do func(row []string)) {
	var grow func(row []string)
	grow = func(row []string) {
		do(row)
		if len(row) == size {
			return
		}
		for _, s := range texts {
			grow(append(slices.Clone(row), s))
		}
	}
	grow(nil)
}

// asked is a call of Read.
type asked struct {
	l []api.Line
	h Header
	n int
}

// calls are calls of each kind, on which the promises of memory are tried.
func calls() []asked {
	var out []asked
	for _, l := range [][]api.Line{nil, all(""), all("  ", " "), all("  a", "   b", "", "c"), all("   ", "  a"), all("a", "b", "---"), all("  é", "  😀", "    ", "  x", "", ""), all("...")} {
		for _, h := range []Header{{}, {Chomp: 1}, {Folded: true, Chomp: 2}, {Indent: 1}, {Folded: true, Indent: 2}} {
			for _, n := range []int{-1, 0, 1} {
				out = append(out, asked{l, h, n})
			}
		}
	}
	return out
}

// headers are lines for Head, of each kind.
func headers() [][]int {
	var out [][]int
	for _, s := range []string{"", "|", ">", "|-", ">+2 # a", "|3-\t", "|a", "|12", "-", "| #", "|#"} {
		out = append(out, points(s))
	}
	return out
}

// TestNilAndEmpty: P1003: nil and an empty list mean the same, in each place.
func TestNilAndEmpty(t *testing.T) {
	for _, none := range [][]int{nil, {}, make([]int, 0, 5), points("|-")[:0], points("|-")[2:]} {
		checkNoHead(t, none)
		rows{
			{[]api.Line{{Indent: 2, Text: none}}, kept(0), 0, read{"\n", 1, 0}},
			{[]api.Line{{Indent: 2, Text: none}}, kept(1), 0, read{" \n", 1, 0}},
			{[]api.Line{{Indent: 0, Text: none}, line(" a"), {Indent: 0, Text: none}}, kept(0), 0, read{"\na\n\n", 3, 0}},
			{[]api.Line{{Indent: 2, Text: none}, line(" a")}, kept(0), 0, wrong},
			{[]api.Line{line(" a"), {Indent: 3, Text: none}, {Indent: 0, Text: none}}, folded(0), 0, read{"a\n  \n\n", 3, 0}},
		}.check(t)
	}
	for _, none := range [][]api.Line{nil, {}, make([]api.Line, 0, 5), all("a")[:0], all(" a")[1:]} {
		for _, h := range []Header{{}, kept(0), kept(3), folded(1), {Chomp: 1}} {
			for _, n := range []int{math.MinInt, -1, 0, math.MaxInt} {
				checkRead(t, none, h, n, read{})
			}
		}
	}
}

// TestTwice: P1003: the same call tells the same, whatever was called between.
func TestTwice(t *testing.T) {
	for _, x := range calls() {
		first := tell(x.l, x.h, x.n)
		for _, y := range calls() {
			tell(y.l, y.h, y.n)
			if again := tell(x.l, x.h, x.n); again != first {
				t.Fatalf("P1003: Read of %v: %v, then %v", x, first, again)
			}
		}
	}
	for _, l := range headers() {
		h, at, e := Head(l)
		for _, x := range headers() {
			Head(x)
			if h2, at2, e2 := Head(slices.Clone(l)); h2 != h || at2 != at || e2 != e {
				t.Errorf("P1003: Head of %v: %v, %d, %v, then %v, %d, %v", l, h, at, e, h2, at2, e2)
			}
		}
	}
}

// roomy is lines within greater lists, each Text too.
type roomy struct {
	lines []api.Line
	texts [][]int
}

// room lays l into greater lists, with such a line and such a code point beside it all.
func room(l []api.Line, beside api.Line, c int) roomy {
	r := roomy{lines: []api.Line{beside}}
	for _, x := range l {
		text := append([]int{c}, x.Text...)
		text = append(text, c, c, c)
		r.texts = append(r.texts, text)
		r.lines = append(r.lines, api.Line{Indent: x.Indent, Text: text[1 : 1+len(x.Text)]})
	}
	r.lines = append(r.lines, beside, beside)
	return r
}

// equal tells whether two rooms have the same everywhere.
func (r roomy) equal(s roomy) bool {
	return slices.EqualFunc(r.texts, s.texts, slices.Equal) && slices.EqualFunc(r.lines, s.lines, func(x, y api.Line) bool {
		return x.Indent == y.Indent && slices.Equal(x.Text, y.Text)
	})
}

// TestUnchanged: P1003: what is handed in stays as it is, the room around it too, and that room is not looked at.
func TestUnchanged(t *testing.T) {
	for _, x := range calls() {
		want := tell(x.l, x.h, x.n)
		for _, beside := range all("", "     ", "   a", "---") {
			for _, c := range []int{32, 'a', '-', 10, -7} {
				r := room(x.l, beside, c)
				if got := tell(r.lines[1:1+len(x.l)], x.h, x.n); got != want {
					t.Errorf("P1003: Read of %v within more: %v, not %v", x, got, want)
				}
				if !r.equal(room(x.l, beside, c)) {
					t.Fatalf("P1003: Read of %v changed what was handed in", x)
				}
			}
		}
	}
	for _, l := range headers() {
		want, size, wrong := Head(l)
		for _, c := range []int{32, '-', '1', '#', '|', 'a', -7} {
			r := append(append([]int{c, c}, l...), c, c)
			before := slices.Clone(r)
			if h, at, e := Head(r[2 : 2+len(l)]); h != want || at != size || e != wrong {
				t.Errorf("P1003: Head of %v within more: %v, %d, %v", l, h, at, e)
			}
			if !slices.Equal(r, before) {
				t.Fatalf("P1003: Head of %v changed what was handed in", l)
			}
		}
	}
}

// TestNotKept: P1003: what was told stays when what was handed in is changed, and what is told then is of what stands there then.
func TestNotKept(t *testing.T) {
	for _, x := range calls() {
		r := room(x.l, api.Line{}, 0)
		l := r.lines[1 : 1+len(x.l)]
		text, took, e := Read(l, x.h, x.n)
		held := strings.Clone(text)
		for i := range l {
			for j := range r.texts[i] {
				r.texts[i][j] = 'z'
			}
			l[i].Indent += 2
		}
		if text != held {
			t.Errorf("P1003: %v: what was told has changed: %q, not %q", x, text, held)
		}
		changed := tell(l, x.h, x.n)
		for i := range l {
			l[i] = api.Line{Indent: x.l[i].Indent, Text: slices.Clone(x.l[i].Text)}
		}
		if again := tell(l, x.h, x.n); again != (read{held, took, e}) {
			t.Errorf("P1003: %v: %q, and behind %v: %v", x, held, changed, again)
		}
	}
}

// TestMany: P1001, P1002: no line is too long, and no lines are too many.
func TestMany(t *testing.T) {
	const many = 1 << 20
	for _, c := range []string{" ", "\t", " #", " #a", "\t# "} {
		l := points("|2-" + strings.Repeat(" ", many) + c + strings.Repeat(" ", many))
		if h, at, e := Head(l); h != (Header{false, 1, 2}) || at != len(l) || e != api.OK {
			t.Errorf("P1001: Head with many blanks and %q: %v, %d, %v", c, h, at, e)
		}
	}
	long := strings.Repeat("ab", many)
	var tall, hollow []api.Line
	for range many {
		tall = append(tall, line(" a"))
		hollow = append(hollow, api.Line{Indent: 1})
	}
	for _, x := range (rows{
		{all(" " + long), Header{}, 0, read{long + "\n", 1, 0}},
		{[]api.Line{line(" a"), {Indent: many + 1}}, kept(0), 0, read{"a\n" + strings.Repeat(" ", many) + "\n", 2, 0}},
		{tall, Header{}, 0, read{strings.Repeat("a\n", many), many, 0}},
		{tall, Header{Folded: true, Chomp: 1}, 0, read{strings.Repeat("a ", many)[:2*many-1], many, 0}},
		{hollow, Header{}, 0, read{"", many, 0}},
		{hollow, kept(0), 3, read{strings.Repeat("\n", many), many, 0}},
		{append(slices.Clip(hollow), line("  a")), folded(0), 1, read{strings.Repeat("\n", many) + "a\n", many + 1, 0}},
		{append(slices.Clip(hollow), line("a")), folded(0), -1, wrong},
	}) {
		if got := tell(x.l, x.h, x.n); got != x.want {
			t.Errorf("P1002: Read of %d lines: %d bytes, %d, %v", len(x.l), len(got.text), got.took, got.e)
		}
	}
}

// TestLeft: a loop over pieces may be left at each of them, and the same iterator may be ranged over again.
func TestLeft(t *testing.T) {
	want := []string{"a", " b", "", " ", "c"}
	list := pieces(all(" a", "  b", "", "  ", " c", "d", " e"), 1)
	for stop := range want {
		at := 0
		for piece := range list {
			if !slices.Equal(piece, points(want[at])) {
				t.Errorf("piece %d: %v, not %q", at, piece, want[at])
			}
			if at == stop {
				break
			}
			at++
		}
		if at != stop {
			t.Errorf("left at %d, not %d", at, stop)
		}
	}
	count := 0
	for range list {
		count++
	}
	if count != len(want) {
		t.Errorf("%d pieces, not %d", count, len(want))
	}
}
