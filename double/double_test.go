package double

import (
	"fmt"
	"math"
	"regexp"
	"slices"
	"strconv"
	"strings"
	"testing"

	"marginalia/api"
	"marginalia/chars"
	"marginalia/fold"
)

// points tells the code points of s.
func points(s string) []int {
	var l []int
	for _, c := range s {
		l = append(l, int(c))
	}
	return l
}

// lines tells the code points of each text.
func lines(texts ...string) [][]int {
	var l [][]int
	for _, s := range texts {
		l = append(l, points(s))
	}
	return l
}

// text tells code points as a text.
func text(l []int) string {
	var b strings.Builder
	for _, c := range l {
		b.WriteRune(rune(c))
	}
	return b.String()
}

func checkEnd(t *testing.T, l []int, want int) {
	t.Helper()
	at, ok := End(l)
	if want < 0 && (ok || at != 0) || want >= 0 && (!ok || at != want) {
		t.Errorf("P701: End of %q: %d, %v, not %d", text(l), at, ok, want)
	}
}

func checkRead(t *testing.T, want string, texts ...string) {
	t.Helper()
	got, e := Read(lines(texts...))
	if e != api.OK || !slices.Equal(got, points(want)) {
		t.Errorf("P702: Read of %q: %q, %d, not %q", texts, text(got), e, want)
	}
}

func checkFault(t *testing.T, want api.Errno, texts ...string) {
	t.Helper()
	got, e := Read(lines(texts...))
	if e != want || len(got) != 0 {
		t.Errorf("P702: Read of %q: %q, %d, not %d", texts, text(got), e, want)
	}
}

// TestEnd: P701: the edges: no quote, one at the first place and at the last one, behind one, two, three and more `\`, a `\` at the end.
func TestEnd(t *testing.T) {
	for s, want := range map[string]int{
		``: -1, `a`: -1, `abc`: -1, `'`: -1, `"`: 0, `"a`: 0, `""`: 0, `"\`: 0, `a"`: 1, `a"b"`: 1, `abc"`: 3, ` "`: 1,
		`\"`: -1, `\\"`: 2, `\\\"`: -1, `\\\\"`: 4, `\\\\\"`: -1, `a\"b`: -1, `a\"b"`: 4, `\""`: 2, `\"""`: 2, `\"\"`: -1, `\\""`: 2, `\\\""`: 4,
		`\`: -1, `\\`: -1, `\\\`: -1, `a\`: -1, `a\\`: -1, `\n"`: 2, `\x"41"`: 2, `\z\"\\"`: 6, `\a\\\"b"c"`: 7,
	} {
		checkEnd(t, points(s), want)
	}
	checkEnd(t, nil, -1)
	checkEnd(t, []int{}, -1)
	checkEnd(t, points(`a""`)[:1], -1) // what stands in the spare room is not looked at
	checkEnd(t, points(`\""`)[:2], -1)
}

// TestEndNumbers: P701: a number that is like a quote or a `\` in its last bits only is neither.
func TestEndNumbers(t *testing.T) {
	for _, far := range []int{256, -256, 1 << 16, 1 << 32, -1 << 32, math.MinInt, 1 << 62} {
		checkEnd(t, []int{'"' + far}, -1)
		checkEnd(t, []int{'"' + far, '"'}, 1)
		checkEnd(t, []int{'\\' + far, '"'}, 1)
		checkEnd(t, []int{'\\', far, '"'}, 2)
		checkEnd(t, []int{'\\', '\\' + far, '"'}, 2)
		checkEnd(t, []int{-'"', -'\\', '"'}, 2)
	}
}

// TestEndAll: P701: every short row of the signs that matter, held against a pattern.
func TestEndAll(t *testing.T) {
	whole := regexp.MustCompile(`^(?:[^"\\]|\\.)*"`)
	eachRow([]string{`"`, `\`, `a`}, 9, func(row []string) {
		s := strings.Join(row, "")
		want := -1
		if span := whole.FindStringIndex(s); span != nil {
			want = span[1] - 1
		}
		checkEnd(t, points(s), want)
	})
}

// TestReadOne: P702: no lines; one line, whose blanks stay at both ends.
func TestReadOne(t *testing.T) {
	checkRead(t, "")
	for _, s := range []string{"", " ", "\t", " \t  ", "a", " a", "a ", "\ta\t", "  a \t b  ", "it's", "\u00a0a\u0085", "x41", "€😀", `"`, `a"b`, "/", "a\nb", "\r"} {
		checkRead(t, s, s)
	}
}

// TestReadFolded: P702: lines without escapes are folded as fold.Flow does it.
func TestReadFolded(t *testing.T) {
	eachRow([]string{"", " ", "\t ", "a", " b", "c\t", " d e "}, 5, func(row []string) {
		checkRead(t, text(fold.Flow(lines(row...))), row...)
	})
}

// shortPoints answers what each sign behind a `\` stands for, as the document lists them.
func shortPoints() map[int]int {
	return map[int]int{'0': 0, 'a': 7, 'b': 8, 't': 9, 9: 9, 'n': 10, 'v': 11, 'f': 12, 'r': 13, 'e': 27, 32: 32, '"': 34, '/': 47, '\\': 92, 'N': 133, '_': 160, 'L': 8232, 'P': 8233}
}

// TestShort: P702: each escape of one sign, at each place of a line, and each sign that is none.
func TestShort(t *testing.T) {
	want := shortPoints()
	if len(want) != 18 {
		t.Fatalf("%d signs", len(want))
	}
	var signs []int
	for c := -300; c < 70000; c++ {
		signs = append(signs, c)
	}
	for c := range want {
		for _, far := range []int{256, -256, 1 << 16, 1 << 32, -1 << 32, math.MinInt} {
			signs = append(signs, c+far)
		}
		signs = append(signs, -c-1000000)
	}
	signs = append(signs, 1114111, 1114112, math.MaxInt, math.MinInt)
	for _, c := range signs {
		p, is := want[c]
		got, e := Read([][]int{{'\\', c}})
		more, e2 := Read([][]int{{'a', '\\', c, '4', '1', '4', '1', '4', '1', '4', '1'}})
		switch {
		case c == 'x' || c == 'u' || c == 'U': // see TestDigits
		case is && (e != api.OK || e2 != api.OK || !slices.Equal(got, []int{p}) || !slices.Equal(more, []int{'a', p, '4', '1', '4', '1', '4', '1', '4', '1'})):
			t.Errorf("P702: `\\` and %d: %v, %d, and %v, %d", c, got, e, more, e2)
		case !is && (e != api.ErrSyntax || e2 != api.ErrSyntax || len(got)+len(more) != 0):
			t.Errorf("P702: `\\` and %d: %v, %d, and %v, %d", c, got, e, more, e2)
		}
	}
	checkRead(t, "\x00\a\b\t\t\n\v\f\r\x1b \"/\\\u0085\u00a0\u2028\u2029", "\\0\\a\\b\\t\\\t\\n\\v\\f\\r\\e\\ \\\"\\/\\\\\\N\\_\\L\\P")
	checkRead(t, `\n`, `\\n`)
	checkRead(t, "\\\n", `\\\n`)
	checkRead(t, `\\`, `\\\\`)
	checkRead(t, `a"b"c`, `a\"b"c`)
}

// TestDigits: P702: just as many digits as asked, too few, at a line's end, of both cases, with other signs beside them.
func TestDigits(t *testing.T) {
	checkRead(t, "A€😀é", `\x41\u20ac\U0001F600\xe9`)
	checkRead(t, "«ꯍ\U0010ABCD", `\xaB\uAbCd\U0010aBcD`)
	checkRead(t, "ÿÿ", `\xFF\xff`)
	checkRead(t, "A1 A1 A1", `\x411 \u00411 \U000000411`)
	checkRead(t, "AgAGA A\\AA", `\x41g\u0041G\U00000041 \x41\\\x41\u0041`)
	checkRead(t, "\x00\x00\x00", `\x00\u0000\U00000000`)
	checkRead(t, "A 1", `\x41`, `1`)
	for sign, count := range map[string]int{"x": 2, "u": 4, "U": 8} {
		digits := strings.Repeat("0", count-2) + "4d"
		checkRead(t, "aMb", "a\\"+sign+digits+"b")
		checkRead(t, "M", "\\"+sign+digits)
		checkRead(t, "M M", "\\"+sign+digits, " \\"+sign+digits)
		for size := range count {
			few := "\\" + sign + digits[:size]
			checkFault(t, api.ErrSyntax, few)
			checkFault(t, api.ErrSyntax, few, digits[size:])
			checkFault(t, api.ErrSyntax, few+"\\", digits[size:])
			for _, c := range []string{"/", ":", "@", "G", "`", "g", " ", "\t", "-", "+", "_", "x", "\\", "\"", "٣", "\u00e4", "\uff11"} {
				checkFault(t, api.ErrSyntax, few+c+digits[size:])
				checkFault(t, api.ErrSyntax, few+c+digits[size+1:]+"0")
			}
			for _, far := range []int{256, -256, 1 << 32, -1 << 32, math.MinInt} {
				l := points("\\" + sign + digits)
				l[2+size] += far
				if got, e := Read([][]int{l}); e != api.ErrSyntax || len(got) != 0 {
					t.Errorf("P702: Read of %v: %v, %d", l, got, e)
				}
			}
		}
	}
	checkFault(t, api.ErrSyntax, `\X41`)
	checkFault(t, api.ErrSyntax, `\u{41}`)
}

// TestCodePoints: P702: each code point that digits can tell, and those that are none.
func TestCodePoints(t *testing.T) {
	check := func(s string, p int) {
		t.Helper()
		right := 0 <= p && p < 55296 || 57343 < p && p <= 1114111
		got, e := Read(lines(s))
		if right && (e != api.OK || !slices.Equal(got, []int{p})) || !right && (e != api.ErrChar || len(got) != 0) {
			t.Errorf("P702: Read of %q: %v, %d", s, got, e)
		}
	}
	for p := range 256 {
		check(fmt.Sprintf(`\x%02x`, p), p)
		check(fmt.Sprintf(`\x%02X`, p), p)
	}
	for p := range 65536 {
		check(fmt.Sprintf(`\u%04x`, p), p)
		check(fmt.Sprintf(`\U%08X`, p), p)
	}
	for p := 65536; p < 1200000; p += 7 {
		check(fmt.Sprintf(`\U%08x`, p), p)
	}
	for _, p := range []int{55295, 55296, 56319, 56320, 57343, 57344, 65533, 65534, 65535, 65536, 1114110, 1114111, 1114112, 1114113, 1<<24 + 65, 1<<28 + 65, 1<<31 - 1, 1 << 31, 1<<31 + 65, 1<<32 - 2, 1<<32 - 1} {
		check(fmt.Sprintf(`\U%08x`, p), p)
		check(fmt.Sprintf(`\U%08X`, p), p)
	}
	checkFault(t, api.ErrChar, `\ud83d\ude00`) // two halves are no pair
	checkFault(t, api.ErrSyntax, `\uD80`)      // too few digits, whatever they would tell
	checkFault(t, api.ErrSyntax, `\UFFFFFFF`)
	checkFault(t, api.ErrSyntax, `\UFFFFFFFg`)
}

// TestEscapedStays: P702: what an escape stands for is not folded and not left off, beside blanks that are.
func TestEscapedStays(t *testing.T) {
	blanks := []struct{ written, read string }{{`\ `, " "}, {`\t`, "\t"}, {"\\\t", "\t"}, {`\n`, "\n"}, {`\r`, "\r"}, {`\x20`, " "}, {`\x09`, "\t"}, {`\u000a`, "\n"}, {`\U00000020`, " "}, {`\N`, "\u0085"}, {`\L`, "\u2028"}, {`\_`, "\u00a0"}}
	for _, x := range blanks {
		w, r := x.written, x.read
		for _, b := range []string{"", " ", "\t", " \t "} {
			checkRead(t, b+r+b, b+w+b)
			checkRead(t, "a"+r+" b", "a"+w+b, b+"b")
			checkRead(t, "a "+r+"b", "a"+b, b+w+"b")
			checkRead(t, "a"+b+r+" b", "a"+b+w+b, b+"b")
			checkRead(t, "a "+r+b+"b", "a"+b, b+w+b+"b")
			checkRead(t, "a "+r+" b", "a"+b, b+w+b, b+"b")
			checkRead(t, "a "+r+b+r+" b", "a"+b, b+w+b+w+b, b+"b")
			checkRead(t, "a\n"+r+"\n\nb", "a"+b, b, b+w+b, b, b, "b")
			checkRead(t, b+r+" "+r+b, b+w+b, b+w+b)
			checkRead(t, b+r+"\n"+r+b, b+w+b, b, b+w+b)
			checkRead(t, " "+r+" ", b, b+w+b, b)
			checkRead(t, b+r+"\n", b+w+b, b, b)
		}
	}
	checkRead(t, "a  b", `a\ `, "b")
	checkRead(t, "a  b", "a", `\ b`)
	checkRead(t, "a   b", "a", `\  b`)
	checkRead(t, "\n \n", `\n`, `\n`)
}

// TestJoined: P702: a `\` at the end of a line that is not the last one.
func TestJoined(t *testing.T) {
	for _, b := range []string{"", " ", "\t", "  ", " \t "} {
		checkRead(t, "a"+b+"b", "a"+b+`\`, b+"b")
		checkRead(t, b+"b"+b, b+`\`, b+"b"+b) // the first one's blanks stay, at its beginning too
		checkRead(t, "a bb c", "a", b+`b\`, b+"b"+b, "c")
		checkRead(t, "a b", "a", b+`\`, b+"b") // blanks at the beginning are left off, even where a `\` is all that stands behind
		checkRead(t, "a b"+b+"c", "a", b+"b"+b+`\`, b+"c")
		checkRead(t, "abc", `a\`, b+`b\`, b+"c")
		checkRead(t, "ac", `a\`, b+`\`, b+"c")
		checkRead(t, "ac", `a\`, b+`\`, b+`\`, b+`\`, "c")
		checkRead(t, "a c", "a", b+`\`, b+`\`, b+`\`, "c")
		checkRead(t, "c", `\`, `\`, b+"c")
		checkRead(t, "a b", `a\`, b, "b") // the next one counts as not empty
		checkRead(t, "a\nb", `a\`, b, b, "b")
		checkRead(t, "a\n\nb", `a\`, b, b, b, "b")
		checkRead(t, "a\nb", "a", b, b+`\`, "b") // and so does this one
		checkRead(t, "a\n\nb", "a", b, b, b+`\`, b+"b")
		checkRead(t, "a\n\n\nb", "a", b, b+`\`, b, b, b, "b")
		checkRead(t, "a b", "a", b+`\`, b+`\`, b+"b")
		checkRead(t, "a  b", "a", b+`\`, b, b+"b")
		checkRead(t, "a", `a\`, b) // the last one
		checkRead(t, "a ", `a\`, b, b)
		checkRead(t, "a\n", `a\`, b, b, b)
		checkRead(t, "", `\`, b)
		checkRead(t, "a ", "a", `\`, b)
		checkRead(t, "a"+b+" b", "a"+b+`\ \`, b+"b")
		checkRead(t, "a\t"+b+"b", `a\t`+b+`\`, b+"b")
		checkRead(t, "a b", `a\`, b+`\ b`) // escaped blanks are no blanks at the beginning
		checkRead(t, "a\t"+b+"b", `a\`, b+`\t`+b+"b")
		checkRead(t, "a\nb", `a\`, b+`\nb`)
	}
	checkRead(t, `a\ b`, `a\\`, "b")
	checkRead(t, `a\b`, `a\\\`, "b")
	checkRead(t, `a\\ b`, `a\\\\`, "b")
	checkRead(t, "a\u00a0b", `a\`, "\u00a0b") // no blank
}

// TestFaults: P702: of several errors the first one in order is told, and nothing beside it.
func TestFaults(t *testing.T) {
	syntax := []string{`\z`, `\x4`, `\xg1`, `\u123 `, `\U0000004`, `\'`, `\1`, `\uD80g`}
	char := []string{`\ud800`, `\uDFFF`, `\U00110000`, `\UFFFFFFFF`}
	for _, s := range syntax {
		checkFault(t, api.ErrSyntax, s)
		checkFault(t, api.ErrSyntax, "a", "b "+s, "c")
		checkFault(t, api.ErrSyntax, `a\`, s)
		checkFault(t, api.ErrSyntax, s, `\`)
		for _, c := range char {
			checkFault(t, api.ErrSyntax, s+" "+c)
			checkFault(t, api.ErrSyntax, s, c)
			checkFault(t, api.ErrSyntax, "a", s, "", c, `\`)
			checkFault(t, api.ErrChar, c+" "+s)
			checkFault(t, api.ErrChar, c, s)
			checkFault(t, api.ErrChar, "a", c+`\`, "", s)
		}
	}
	for _, c := range char {
		checkFault(t, api.ErrChar, "a "+c+" b")
		checkFault(t, api.ErrChar, c+`\`)
		checkFault(t, api.ErrChar, c, `\`)
		checkFault(t, api.ErrSyntax, `a\z`+c+`\`)
	}
	for _, row := range [][]string{{`\`}, {`a\`}, {` \`}, {`\\\`}, {"a", `\`}, {"a", `b\`}, {`a\`, `\`}, {`a\`, `  \`}, {"", "", `\`}, {`\`, `\`, `\`}, {`a\ \`}} {
		checkFault(t, api.ErrSyntax, row...)
		checkFault(t, api.ErrSyntax, append(slices.Clone(row), `\z`)...)
	}
	checkFault(t, api.ErrSyntax, "\\\n") // an end that is no line's end
	checkFault(t, api.ErrSyntax, "a\\\n", "b")
	checkFault(t, api.ErrSyntax, "\\\r")
}

var (
	anEscape = regexp.MustCompile(`\\(?:x[0-9A-Fa-f]{2}|u[0-9A-Fa-f]{4}|U[0-9A-Fa-f]{8}|\n[ \t]*|[0abt\tnvfre "/\\N_LP])?`)
	someEnds = regexp.MustCompile(`[ \t]*\n[ \t\n]*`)
)

// otherRead: P702 by another way: the lines as one text, escapes found by a pattern and kept aside, ends folded by a pattern.
func otherRead(row []string) (string, api.Errno) {
	var kept []string
	fault := api.OK
	raw := anEscape.ReplaceAllStringFunc(strings.Join(row, "\n"), func(s string) string {
		p, e := otherEscape(s)
		if fault == api.OK {
			fault = e
		}
		kept = append(kept, p)
		return "\ue000"
	})
	if fault != api.OK {
		return "", fault
	}
	folded := someEnds.ReplaceAllStringFunc(raw, func(s string) string {
		if n := strings.Count(s, "\n"); n > 1 {
			return strings.Repeat("\n", n-1)
		}
		return " "
	})
	for _, p := range kept {
		folded = strings.Replace(folded, "\ue000", p, 1)
	}
	return folded, api.OK
}

func otherEscape(s string) (string, api.Errno) {
	switch {
	case len(s) == 1:
		return "", api.ErrSyntax
	case s[1] == '\n':
		return "", api.OK
	case len(s) == 2:
		return string(rune(shortPoints()[int(s[1])])), api.OK
	}
	p, err := strconv.ParseInt(s[2:], 16, 64)
	if err != nil || p > 1114111 || 55296 <= p && p <= 57343 {
		return "", api.ErrChar
	}
	return string(rune(p)), api.OK
}

func checkOther(t *testing.T, row []string) {
	t.Helper()
	if want, fault := otherRead(row); fault != api.OK {
		checkFault(t, fault, row...)
	} else {
		checkRead(t, want, row...)
	}
}

// eachRow does it with every row of at most size of the texts.
func eachRow(texts []string, size int, do func(row []string)) {
	rows := [][]string{nil}
	for range size + 1 {
		var longer [][]string
		for _, row := range rows {
			do(row)
			for _, s := range texts {
				longer = append(longer, append(slices.Clone(row), s))
			}
		}
		rows = longer
	}
}

// TestReadLines: P702: every short row of lines of each kind, held against the other way.
func TestReadLines(t *testing.T) {
	eachRow([]string{"", " ", `\`, ` \`, "a", " b ", `c \`, `\ `, ` \t`}, 4, func(row []string) {
		checkOther(t, row)
	})
	eachRow([]string{"", "a ", ` \`, `b\`, `\\`, `\ud800`, `\z`, ` \u0020 \`}, 4, func(row []string) {
		checkOther(t, row)
	})
	eachRow([]string{"", " ", " a", `\`}, 6, func(row []string) {
		checkOther(t, row)
	})
}

// TestReadSigns: P702: every short row of the signs that matter, parted into lines at each |, held against the other way.
func TestReadSigns(t *testing.T) {
	eachRow([]string{`\`, "|", " ", "x", "4", "n", "g"}, 6, func(row []string) {
		checkOther(t, strings.Split(strings.Join(row, ""), "|"))
	})
}

// TestReadNumbers: P702: numbers that are no code points, or like a `\` or a blank in their last bits only, stay as they are.
func TestReadNumbers(t *testing.T) {
	for _, c := range []int{-1, -2, 0, 10, 13, 32 + 256, 9 - 256, 92 + 256, 92 - 256, 92 + 1<<32, 92 - 1<<32, 32 + 1<<32, -92, -32, 55296, 57343, 1114112, math.MinInt, math.MinInt + 92, math.MaxInt} {
		l := [][]int{{c, 32}, {9, c, '\\'}, {32, c, '\\', 'n', 9}, {}, {c}}
		want := []int{c, 32, c, c, 10, 10, c}
		if got, e := Read(l); e != api.OK || !slices.Equal(got, want) {
			t.Errorf("P702: with %d: %v, %d, not %v", c, got, e, want)
		}
	}
}

// escaped tells whether the document asks for an escape in the place of the code point c.
func escaped(c int) bool {
	return slices.Contains([]int{'"', '\\', 9, 10, 13, 133, 8232, 8233, 65279}, c) || !chars.Print(c)
}

func isHalfOrNone(c int) bool {
	return c < 0 || 55296 <= c && c <= 57343 || c > 1114111
}

// checkBack: Write of l is a quote, one line, and the quote that End tells; what stands between is read as want.
func checkBack(t *testing.T, l, want []int) {
	t.Helper()
	w := Write(l)
	last := len(w) - 1
	if last < 1 || w[0] != '"' || w[last] != '"' {
		t.Fatalf("P703: Write of %v: %v", l, w)
	}
	if at, ok := End(w[1:]); !ok || at != last-1 {
		t.Errorf("P703: Write of %v: %q: End tells %d, %v", l, text(w), at, ok)
	}
	for _, c := range w[1:last] {
		if c != '"' && c != '\\' && escaped(c) {
			t.Errorf("P703: Write of %v: %d stands as it is", l, c)
		}
	}
	if got, e := Read([][]int{w[1:last]}); e != api.OK || !slices.Equal(got, want) {
		t.Errorf("P703: Write of %v: %q: read as %v, %d", l, text(w), got, e)
	}
}

// TestWrite: P703: nothing, ordinary texts, blanks at the ends, digits behind escapes.
func TestWrite(t *testing.T) {
	for s, want := range map[string]string{
		"": `""`, "a": `"a"`, " ": `" "`, " a b ": `" a b "`, "aé😀'#": `"aé😀'#"`, "it's: [x]": `"it's: [x]"`, "/": `"/"`, "\u00a0": "\"\u00a0\"", "\ufffd": "\"\ufffd\"", "€\U0010ffff": "\"€\U0010ffff\"",
	} {
		if got := text(Write(points(s))); got != want {
			t.Errorf("P703: Write of %q: %q, not %q", s, got, want)
		}
	}
	for _, s := range []string{"", `"`, `\`, `""`, `\\`, `\"`, `"\`, `\n`, "\n", "\r\n", "\t", " \t \n ", "\x00", "\x001", "\x0041", "\x7f41", "\x1f\x1fff", "\u00804", "\ufeffab", "\u0085\u2028\u2029\ufeff", `a"b\c`, "a\nb\n\nc\n"} {
		checkBack(t, points(s), points(s))
	}
	checkBack(t, []int{65534, 'a', 65535, '0', '0', 65534, 127, '8'}, []int{65534, 'a', 65535, '0', '0', 65534, 127, '8'})
}

// TestWriteEach: P703: each code point, alone and all in one text: it stands as it is, or an escape stands for it.
func TestWriteEach(t *testing.T) {
	var all []int
	for c := range 1114112 {
		if isHalfOrNone(c) {
			continue
		}
		all = append(all, c)
		w := Write([]int{c})
		if stands := slices.Equal(w, []int{'"', c, '"'}); stands == escaped(c) {
			t.Errorf("P703: %d: %v", c, w)
		}
		if escaped(c) {
			checkBack(t, []int{c}, []int{c})
			checkBack(t, []int{c, c, '0', c, 'F', '"', c, '\\'}, []int{c, c, '0', c, 'F', '"', c, '\\'})
			if w[1] != '\\' || len(w) < 4 || slices.ContainsFunc(w, func(p int) bool { return p < 32 || p > 126 }) {
				t.Errorf("P703: %d: %v is no escape", c, w)
			}
		}
	}
	w := Write(all)
	if got, e := Read([][]int{w[1 : len(w)-1]}); e != api.OK || !slices.Equal(got, all) {
		t.Errorf("P703: all code points are not read again: %d", e)
	}
}

// TestWriteNumbers: P703: numbers that are no code points are written as 65533.
func TestWriteNumbers(t *testing.T) {
	none := []int{-1, -2, -10, -34, -92, 1114112, 1114113, 1 << 21, 1 << 31, 1<<32 + 65, 1<<32 + 10, 1 << 40, 65 - 1<<32, math.MaxInt, math.MinInt, math.MinInt + 65, math.MaxInt32, math.MinInt32}
	for c := 55296; c <= 57343; c++ {
		none = append(none, c)
	}
	for _, c := range none {
		if !isHalfOrNone(c) {
			t.Fatalf("%d is a code point", c)
		}
		checkBack(t, []int{c}, []int{65533})
		checkBack(t, []int{'a', c, 10, c, c, '"'}, []int{'a', 65533, 10, 65533, 65533, '"'})
		if got, want := Write([]int{c}), Write([]int{65533}); !slices.Equal(got, want) {
			t.Errorf("P703: %d: %v, not %v", c, got, want)
		}
	}
}

// TestWriteAll: P703: every short text of the signs that matter is read again.
func TestWriteAll(t *testing.T) {
	eachRow([]string{`"`, `\`, " ", "\t", "\n", "n", "0", "\x00", "\ufeff"}, 5, func(row []string) {
		l := points(strings.Join(row, ""))
		checkBack(t, l, l)
	})
}

// call is one of the package's calls, of lines; all that it answers as one list.
type call struct {
	name string
	do   func(l [][]int) []int
}

// calls answers Read, and End and Write of each line.
func calls() []call {
	return []call{
		{"Read", func(l [][]int) []int {
			out, e := Read(l)
			if e != api.OK {
				return append(out, -int(e))
			}
			return out
		}},
		{"Write", func(l [][]int) []int {
			if len(l) == 0 {
				return Write(nil)
			}
			return Write(l[0])
		}},
		{"End", func(l [][]int) []int {
			var out []int
			for _, line := range l {
				at, ok := End(line)
				if !ok {
					at = -1
				}
				out = append(out, at)
			}
			return out
		}},
	}
}

// rows are lines of each kind, on which the promises of memory are tried.
func rows() [][]string {
	return [][]string{{"a"}, {""}, {" "}, {" a "}, {`\n`}, {`a\"b"`}, {"a", "b"}, {"a ", "\tb"}, {`a\`, "  b"}, {`\`, `\`, ""}, {"", "a", ""}, {` \ `, "", `\`, " ", "c", `d \`, " e "}, {`\x41`, `a\u20acb`, `\z`}, {`\ud800`}, {`a\`}, {"a\"\t\n\x00\ufeff"}, {"a", `\`}}
}

// TestNilAndEmpty: P704: nil and an empty list mean the same, as the lines and as each line.
func TestNilAndEmpty(t *testing.T) {
	nones := [][]int{nil, {}, make([]int, 0, 5), points("abc")[3:], points(`\"`)[:0]}
	for _, l := range [][][]int{nil, {}, make([][]int, 0, 3), lines(`\`)[:0]} {
		if got, e := Read(l); e != api.OK || len(got) != 0 {
			t.Errorf("P704: Read of no lines: %v, %d", got, e)
		}
	}
	for _, none := range nones {
		checkEnd(t, none, -1)
		if got := Write(none); !slices.Equal(got, []int{'"', '"'}) {
			t.Errorf("P704: Write of nothing: %v", got)
		}
	}
	eachRow([]string{"", "a", ` \`}, 5, func(row []string) {
		want, fault := otherRead(row)
		for _, none := range nones {
			l := lines(row...)
			for i := range l {
				if len(l[i]) == 0 {
					l[i] = none
				}
			}
			if got, e := Read(l); e != fault || text(got) != want {
				t.Errorf("P704: Read of %q: %q, %d, not %q, %d", row, text(got), e, want, fault)
			}
		}
	})
}

// spoil writes over all of l, its spare room too.
func spoil(l []int) {
	l = l[:cap(l)]
	for i := range l {
		l[i] = -7
	}
}

// TestTwice: P704: the same call tells the same, whatever was done with what it told before, and whatever was called between.
func TestTwice(t *testing.T) {
	for _, x := range calls() {
		for _, row := range rows() {
			l := lines(row...)
			first := x.do(l)
			want := slices.Clone(first)
			spoil(first)
			for range 2 {
				for _, other := range rows() {
					for _, y := range calls() {
						spoil(y.do(lines(other...)))
					}
				}
				got, second := x.do(l), x.do(lines(row...))
				if !slices.Equal(got, want) || !slices.Equal(second, want) {
					t.Errorf("P704: %s of %q: %v, then %v and %v", x.name, row, want, got, second)
				}
				spoil(got)
				if !slices.Equal(second, want) {
					t.Errorf("P704: %s of %q: two answers share memory", x.name, row)
				}
			}
		}
	}
}

// laid answers the lines of row as pieces of one list with room on all sides, and with spare lines behind them: the spare room of each one is the next one.
func laid(row []string) (room []int, all, l [][]int) {
	room = []int{1, 32, 3}
	var ends []int
	for _, s := range row {
		room = append(room, points(s)...)
		ends = append(ends, len(room))
	}
	room = append(room, 'n', 32, '"', 9, 4, 5, 6, 7)
	from := 3
	for _, end := range ends {
		all = append(all, room[from:end])
		from = end
	}
	all = append(all, points("x"), nil, points(" y"))
	return room, all, all[:len(row)]
}

// sameList tells whether a and b are one list: the same place, as long, with the same room.
func sameList(a, b []int) bool {
	if len(a) != len(b) || cap(a) != cap(b) {
		return false
	}
	return cap(a) == 0 || &a[:1][0] == &b[:1][0]
}

// TestUnchanged: P704: what is handed in stays as it is, the room around it too, and that room is not looked at.
func TestUnchanged(t *testing.T) {
	for _, x := range calls() {
		for _, row := range rows() {
			want := x.do(lines(row...))
			room, all, l := laid(row)
			keptRoom, keptAll := slices.Clone(room), slices.Clone(all)
			got := x.do(l)
			told := slices.Clone(got)
			spoil(got)
			if !slices.Equal(told, want) {
				t.Errorf("P704: %s of %q within a list: %v, not %v", x.name, row, told, want)
			}
			if !slices.Equal(room, keptRoom) || !slices.EqualFunc(all, keptAll, sameList) || text(all[len(row)]) != "x" || text(all[len(row)+2]) != " y" {
				t.Errorf("P704: %s of %q changed what it was given: %v, not %v", x.name, row, room, keptRoom)
			}
		}
	}
}

// TestOwnMemory: P704: what is told shares no memory with what was handed in, and hangs no more on it.
func TestOwnMemory(t *testing.T) {
	for _, x := range calls() {
		for _, row := range rows() {
			room, all, l := laid(row)
			got := x.do(l)
			want := slices.Clone(got)
			spoil(room)
			clear(all)
			if !slices.Equal(got, want) {
				t.Errorf("P704: %s of %q shares with what was handed in: %v, not %v", x.name, row, got, want)
			}
		}
	}
}

// TestMany: P701 to P703: no count of lines is too many, and no line too long.
func TestMany(t *testing.T) {
	const many = 1 << 18
	size := func(what string, l [][]int, want int) {
		t.Helper()
		if got, e := Read(l); e != api.OK || len(got) != want {
			t.Errorf("P702: %s: %d code points, %d, not %d", what, len(got), e, want)
		}
	}
	size("empty lines", make([][]int, many), many-2)
	size("joined lines", append(slices.Repeat(lines(` a\`), many), nil), many+1)
	size("joined lines of nothing", append(slices.Repeat(lines(`\`), many), nil), 0)
	size("escapes", lines(strings.Repeat(`\U00000041`, many)), many)
	size("blanks", lines(strings.Repeat(" ", many)+`\`, strings.Repeat("\t", many)), many)
	checkEnd(t, points(strings.Repeat(`\"`, many)), -1)
	checkEnd(t, points(strings.Repeat(`\\`, many)+`"`), 2*many)
	long := points(strings.Repeat("\"\\\x7fa", many))
	checkBack(t, long, long)
}

// TestLeft: a loop over escapes, or over the signs of one, may be left at each of them, and the same iterator may be ranged over again.
func TestLeft(t *testing.T) {
	places := []int{1, 4, 6, 10, 12}
	all := escapes(points(`a\nb\\\x41\ \`), false)
	for stop := range places {
		var got []int
		for at := range all {
			got = append(got, at)
			if len(got) > stop {
				break
			}
		}
		if !slices.Equal(got, places[:stop+1]) {
			t.Errorf("escapes up to %d: %v, not %v", stop, got, places[:stop+1])
		}
	}
	for c, want := range map[int]string{10: `\n`, 0: `\0`, 127: `\x7F`, 255: `\xFF`, 256: `\u0100`, 65279: `\uFEFF`, 65535: `\uFFFF`} {
		told := signs(c)
		for stop := range len(want) {
			var got []int
			for sign := range told {
				got = append(got, sign)
				if len(got) > stop {
					break
				}
			}
			if text(got) != want[:stop+1] {
				t.Errorf("signs of %d up to %d: %q, not %q", c, stop, text(got), want[:stop+1])
			}
		}
	}
}
