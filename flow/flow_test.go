package flow

import (
	"math"
	"slices"
	"strconv"
	"strings"
	"testing"

	"marginalia/api"
	"marginalia/chars"
	"marginalia/events"
)

// points tells the code points of s.
func points(s string) []int {
	var l []int
	for _, c := range s {
		l = append(l, int(c))
	}
	return l
}

// all makes lines of s, parted at each 10: the blanks ahead count.
func all(s string) []api.Line {
	var l []api.Line
	for _, x := range strings.Split(s, "\n") {
		text := strings.TrimLeft(x, " ")
		l = append(l, api.Line{Indent: len(x) - len(text), Text: points(text)})
	}
	return l
}

// nameOf is an error's name.
func nameOf(e api.Errno) string {
	switch e {
	case api.ErrSyntax:
		return "ErrSyntax"
	case api.ErrChar:
		return "ErrChar"
	case api.ErrIndent:
		return "ErrIndent"
	case api.ErrDeep:
		return "ErrDeep"
	}
	return "Err" + strconv.Itoa(int(e))
}

// show writes events, and the place behind them: [ ] and { } with Flag (( ) and < > without it), *name, scalars as :plain 'single "double with _ for a blank, / for a 10, ~ for a 9, and ahead of them &anchor and !tag.
func show(l []api.Event, line, column int) string {
	var b strings.Builder
	for _, x := range l {
		if x.Anchor != "" && x.Kind != api.EAlias {
			b.WriteString("&" + x.Anchor + " ")
		}
		if x.Tag != "" {
			b.WriteString("!" + x.Tag + " ")
		}
		b.WriteString(signOf(x) + " ")
	}
	return b.String() + "@" + strconv.Itoa(line) + ":" + strconv.Itoa(column)
}

// signOf writes one event without its properties: what its kind does not name stands behind a ?.
func signOf(x api.Event) string {
	flagged := map[int]string{api.ESeq: "[", api.EMap: "{"}
	bare := map[int]string{api.ESeq: "(", api.EMap: "<", api.ESeqEnd: "]", api.EMapEnd: "}"}
	tagged := api.Event{Kind: x.Kind, Tag: x.Tag, Anchor: x.Anchor}
	switch {
	case x == api.Event{Kind: api.EAlias, Anchor: x.Anchor}:
		return "*" + x.Anchor
	case x.Kind == api.EScalar && x.Style > 0 && x.Style <= 5 && !x.Flag:
		return ":'\"|>"[x.Style-1:x.Style] + strings.NewReplacer(" ", "_", "\n", "/", "\t", "~").Replace(x.Text)
	case x.Flag && flagged[x.Kind] != "" && x.Text == "" && x.Style == 0:
		return flagged[x.Kind]
	case x == tagged && bare[x.Kind] != "":
		return bare[x.Kind]
	}
	return "?" + strconv.Itoa(x.Kind)
}

// read is what Node tells of these lines.
func read(l []api.Line, line, column, n, deep int) string {
	list, toLine, toColumn, e := New(l).Node(line, column, n, deep)
	if e == api.OK {
		return show(list, toLine, toColumn)
	}
	if len(list) > 0 || toLine != 0 || toColumn != 0 {
		return nameOf(e) + " beside " + show(list, toLine, toColumn)
	}
	return nameOf(e)
}

// check: P1301: what Node tells from the beginning of a text on, within n.
func check(t *testing.T, s string, n int, want string) {
	if got := read(all(s), 0, 0, n, 0); got != want {
		t.Helper()
		t.Errorf("P1301: %q within %d: %s, not %s", s, n, got, want)
	}
}

// checkAll: P1301: check each of these texts, within -1.
func checkAll(t *testing.T, wants map[string]string) {
	t.Helper()
	for s, want := range wants {
		check(t, s, -1, want)
	}
}

// checkWrong: P1301: ErrSyntax of each of these texts.
func checkWrong(t *testing.T, texts ...string) {
	t.Helper()
	for _, s := range texts {
		check(t, s, -1, "ErrSyntax")
	}
}

// keyAt is what Key tells of these lines; -1: there is none.
func keyAt(l []api.Line, line, column int) int {
	at, right := New(l).Key(line, column)
	switch {
	case right:
		return at
	case at != 0:
		return -2
	}
	return -1
}

// checkKey: P1302: what Key tells from the beginning of a text on; -1: there is none.
func checkKey(t *testing.T, s string, want int) {
	if got := keyAt(all(s), 0, 0); got != want {
		t.Helper()
		t.Errorf("P1302: %q: %d, not %d", s, got, want)
	}
}

// far are numbers that are far from all others.
func far() []int {
	return []int{math.MinInt, math.MinInt + 1, -1 << 32, -1 << 31, 1 << 31, 1 << 32, math.MaxInt - 1, math.MaxInt}
}

// TestRest: a place in the Indent, in the Text, at and behind the line's end, no such line, numbers below 0.
func TestRest(t *testing.T) {
	l := []api.Line{{Indent: 2, Text: points("a b")}, {Indent: 3}, {}, {Text: points("\t c")}, {Indent: 1, Text: points(" é😀")}, {Indent: -4, Text: points("ab")}}
	whole := []string{"  a b", "   ", "", "\t c", "  é😀", "ab"}
	check := func(line, column int, want []int) {
		got := Rest(l, line, column)
		if !slices.Equal(got, want) {
			t.Errorf("Rest at %d, %d: %v, not %v", line, column, got, want)
		}
	}
	for line, s := range whole {
		text := points(s)
		for column := range len(text) + 4 {
			check(line, column, text[min(column, len(text)):])
		}
		for _, column := range append(far(), -1, -2, -3, -4, -5, 1000) {
			check(line, column, nil)
		}
	}
	for _, line := range append(far(), -1, -2, -6, 6, 7, 1000) {
		for _, column := range append(far(), -1, 0, 1, 2) {
			check(line, column, nil)
		}
	}
	for _, none := range [][]api.Line{nil, {}} {
		for line := -2; line < 3; line++ {
			if got := Rest(none, line, 0); len(got) > 0 {
				t.Errorf("Rest of no lines: %v", got)
			}
		}
	}
}

// TestFarIndent: an Indent beyond all others is not gone through one by one.
func TestFarIndent(t *testing.T) {
	const most = 1 << 40
	l := []api.Line{{Indent: most, Text: points("[a: b]: c")}, {Indent: most + 7, Text: points("'d")}, {Indent: math.MaxInt - 9, Text: points("e'")}, {Indent: math.MinInt, Text: points("f: g")}}
	if got := Rest(l, 0, most-2); !slices.Equal(got, points("  [a: b]: c")) {
		t.Errorf("Rest: %v", got)
	}
	if got := Rest(l, 0, most+8); !slices.Equal(got, points("c")) {
		t.Errorf("Rest: %v", got)
	}
	for _, column := range []int{0, 1, 1 << 31, most - 1, most} {
		if got, want := read(l, 0, column, most-1, 0), "[ { :a :b } ] @0:"+strconv.Itoa(most+6); got != want {
			t.Errorf("P1301: at %d: %s, not %s", column, got, want)
		}
		want := -1
		if column == most {
			want = most + 6
		}
		if got := keyAt(l, 0, column); got != want {
			t.Errorf("P1302: at %d: %d, not %d", column, got, want)
		}
	}
	if got, want := read(l, 1, 0, most, 0), "'d_e @2:"+strconv.Itoa(math.MaxInt-7); got != want {
		t.Errorf("P1301: %s, not %s", got, want)
	}
	if got, want := read(l, 3, 0, 0, 0), ":f @3:1"; got != want {
		t.Errorf("P1301: %s, not %s", got, want)
	}
	if got := keyAt(l, 3, 0); got != 1 {
		t.Errorf("P1302: %d", got)
	}
}

// TestGoesOn: P1301: past Blanks, remarks and Bare lines.
func TestGoesOn(t *testing.T) {
	checkAll(t, map[string]string{
		"a": ":a @0:1", " a": ":a @0:2", "\ta": ":a @0:2", " \t \ta": ":a @0:5", "   a": ":a @0:4",
		"#a\nb": ":b @1:1", "# a\nb": ":b @1:1", "  #a\nb": ":b @1:1", "\t#a\nb": ":b @1:1", " \t #\nb": ":b @1:1", "#\n#\n#\nb": ":b @3:1", "##\nb": ":b @1:1",
		"\na": ":a @1:1", "\n\n\na": ":a @3:1", "  \n\t\n \t\n  a": ":a @3:3", "\n#\n\t#\n   # x\n\n\ta": ":a @5:2",
		"&a#b": "&a#b : @0:4", "&a #b": "&a : @0:2", "&a #b\nc": "&a :c @1:1", "&a\t#b\nc": "&a :c @1:1", "&a\n#b\n c": "&a :c @2:2", "&a # b # c\nd": "&a :d @1:1",
		"[ #]\n]": "[ ] @1:1", "[a #]\n]": "[ :a ] @1:1", "[a, #]\n]": "[ :a ] @1:1", "['a' #]\n]": "[ 'a ] @1:1", "[\n#]\n]": "[ ] @2:1", "[\n  #]\n\n#,\n]": "[ ] @4:1", "[a: #\nb]": "[ { :a :b } ] @1:2", "[? #\na #\n]": "[ { :a : } ] @2:1",
		"a#b": ":a#b @0:3", "[a#]": "[ :a# ] @0:4",
	})
	checkWrong(t, "", " ", "\t", "\n", "\n\n", "  \n\t", "#", "# a", " # a\n#b\n", "\n#", "[#]\n]", "[a,#\n]", "['a'#\n]", "[[]#\n]", "{a: 'b'#\n}", "{'a':#\n}", "[&a,#]\n]", "%", "@a", "`a`", "|", ">", "| a", "-", "- a", "?", "? a", ":", ": a", "-\ta", "?\n", ":\n")
}

// TestFirstLine: P1301: neither the Indent nor a Marker of the place's own line counts, only those of the lines behind it.
func TestFirstLine(t *testing.T) {
	for _, n := range append(far(), -2, -1, 0, 1, 2, 3) {
		for s, want := range map[string]string{"a": ":a @0:1", "  a": ":a @0:3", "[a]": "[ :a ] @0:3", " 'a'": "'a @0:4", "---": ":--- @0:3", "...": ":... @0:3", "--- a": ":---_a @0:5", "  # c": "ErrSyntax"} {
			check(t, s, n, want)
		}
	}
	l := all("--- 'a\n b'\n... [c,\n   d]\n---\n ---")
	for i, x := range []struct {
		line, column, n int
		want            string
	}{{0, 3, 0, "'a_b @1:3"}, {0, 4, 0, "'a_b @1:3"}, {0, 4, 1, "ErrIndent"}, {2, 3, 0, "[ :c :d ] @3:5"}, {2, 3, 3, "ErrIndent"}, {3, 5, 0, "ErrSyntax"}, {4, 3, 0, ":--- @5:4"}, {4, 3, 1, "ErrIndent"}, {4, 0, 1, ":--- @4:3"}, {4, 0, 0, ":---_--- @5:4"}} {
		if got := read(l, x.line, x.column, x.n, 0); got != x.want {
			t.Errorf("P1301: %d: %s, not %s", i, got, x.want)
		}
	}
}

// TestOver: P1301: the end of the lines, and Markers.
func TestOver(t *testing.T) {
	for _, over := range []string{"", "\n", "\n\n", "\n  #", "\n---", "\n--- a", "\n---\t", "\n...", "\n... #", "\n\n#\n---", "\n---\na", "\n...\n a", "\n---\n]", "\n...\n'", "\n  \n---\n\"}"} {
		for _, n := range []int{-1, 0, 7} {
			for s, want := range map[string]string{
				"": "ErrSyntax", " ": "ErrSyntax", "#": "ErrSyntax", "&a": "&a : @0:2", " !t ": "!!t : @0:3", "!t &a #": "&a !!t : @0:5", "a": ":a @0:1", " a b ": ":a_b @0:4", "&a a": "&a :a @0:4", "*a": "*a @0:2",
				"[": "ErrSyntax", "[a": "ErrSyntax", "[a,": "ErrSyntax", "[a:": "ErrSyntax", "[a: b": "ErrSyntax", "[?": "ErrSyntax", "[? a": "ErrSyntax", "[? a :": "ErrSyntax", "[&a": "ErrSyntax", "['a'": "ErrSyntax", "[[]": "ErrSyntax",
				"{": "ErrSyntax", "{a": "ErrSyntax", "{a,": "ErrSyntax", "{a:": "ErrSyntax", "{a: b": "ErrSyntax", "{?": "ErrSyntax", "{? a": "ErrSyntax", "{&a": "ErrSyntax", "{a: []": "ErrSyntax",
				"[]": "[ ] @0:2", "{}": "{ } @0:2", "'a'": "'a @0:3", "\"\"": "\" @0:2",
			} {
				check(t, s+over, n, want)
			}
		}
		check(t, "'a"+over, -1, "ErrSyntax")
		check(t, "\"a"+over, -1, "ErrSyntax")
	}
	checkAll(t, map[string]string{
		"[a,\n ---\n]": "[ :a :--- ] @2:1", "[a,\n----\n]": "[ :a :---- ] @2:1", "[a,\n--- b]": "ErrSyntax", "[a,\n....]": "[ :a :.... ] @1:5", "a\n ---": ":a_--- @1:4", "a\n---b": ":a_---b @1:4", "a\n---,": ":a_--- @1:3", "&a\n ...": "&a :... @1:4",
		"'a\n ---\n'": "'a_---_ @2:1", "'a\n----\n'": "'a_----_ @2:1", "\"a\n --- b\"": "\"a_---_b @1:7", "\"a\n...b\"": "\"a_...b @1:5",
	})
}

// TestIndent: P1301: lines behind the first one whose Indent is below n, n, above it, and Bare ones.
func TestIndent(t *testing.T) {
	for s, want := range map[string]string{
		"\n%sa": ":a @1:1", "#\n\n%sa": ":a @2:1", "&a\n%sb": "&a :b @1:1", "&a\n%s!t\n      b": "&a !!t :b @2:7", "!t\n%s[]": "!!t [ ] @1:2", "&a\n%s'b'": "&a 'b @1:3", "&a\n%s,": "&a : @0:2", "&a\n%s|": "&a : @0:2",
		"[\n%s]": "[ ] @1:1", "[\n%sa]": "[ :a ] @1:2", "[a\n%s]": "[ :a ] @1:1", "[a\n%s, b]": "[ :a :b ] @1:4", "[a,\n%sb]": "[ :a :b ] @1:2", "[a,\n%s]": "[ :a ] @1:1", "[[\n%s]]": "[ [ ] ] @1:2", "[[]\n%s]": "[ [ ] ] @1:1", "['a'\n%s]": "[ 'a ] @1:1", "[&a\n%sb]": "[ &a :b ] @1:2", "[*a\n%s]": "[ *a ] @1:1",
		"[a:\n%sb]": "[ { :a :b } ] @1:2", "[a: b\n%s]": "[ { :a :b } ] @1:1", "[a:\n%s]": "[ { :a : } ] @1:1", "[?\n%sa]": "[ { :a : } ] @1:2", "[? a\n%s: b]": "[ { :a :b } ] @1:4", "[? a :\n%sb]": "[ { :a :b } ] @1:2", "[?\n%s]": "[ { : : } ] @1:1", "[? 'a'\n%s]": "[ { 'a : } ] @1:1",
		"{\n%s}": "{ } @1:1", "{\n%sa}": "{ :a : } @1:2", "{a\n%s}": "{ :a : } @1:1", "{a\n%s: b}": "{ :a :b } @1:4", "{a:\n%sb}": "{ :a :b } @1:2", "{a: b\n%s}": "{ :a :b } @1:1", "{a: b\n%s, c}": "{ :a :b :c : } @1:4", "{a: b,\n%sc}": "{ :a :b :c : } @1:2", "{?\n%sa}": "{ :a : } @1:2", "{? a\n%s: b}": "{ :a :b } @1:4", "{'a'\n%s:b}": "ErrSyntax", "{'a':\n%sb}": "{ 'a :b } @1:2",
		"'a\n%sb'": "'a_b @1:2", "'a\n%s'": "'a_ @1:1", "\"a\n%sb\"": "\"a_b @1:2", "\"a\n%s\"": "\"a_ @1:1", "\"a\\\n%sb\"": "\"ab @1:2", "'a\n\n%sb\n      c'": "'a/b_c @3:8", "'a\n%s#b'": "'a_#b @1:3",
	} {
		for n := -1; n < 4; n++ {
			for indent := range 6 {
				text := strings.ReplaceAll(s, "%s", strings.Repeat(" ", indent))
				got := want
				if indent <= n {
					got = "ErrIndent"
				} else if at := strings.LastIndex(want, ":"); strings.Contains(want, "@1") || strings.Contains(want, "@2:1") {
					column, _ := strconv.Atoi(want[at+1:])
					got = want[:at+1] + strconv.Itoa(column+indent)
				}
				check(t, text, n, got)
			}
		}
	}
	for _, n := range append(far(), -5, -2, -1, 0, 1, 4, 5) {
		for s, want := range map[string]string{"[\n%]": "[ ] @1:1", "&a\n%b": "&a :b @1:1", "'a\n%b'": "'a_b @1:2", "a\n%b": ":a_b @1:1"} {
			for _, indent := range []int{-3, 0, 4} {
				l := all(strings.ReplaceAll(s, "%", ""))
				l[1].Indent = indent
				told := want[:len(want)-1] + strconv.Itoa(max(indent, 0)+int(want[len(want)-1]-'0'))
				switch {
				case indent <= n && s[0] == 'a':
					told = ":a @0:1"
				case indent <= n:
					told = "ErrIndent"
				}
				if got := read(l, 0, 0, n, 0); got != told {
					t.Errorf("P1301: %q with %d within %d: %s, not %s", s, indent, n, got, told)
				}
			}
		}
	}
}

// TestBareLines: P1301: the Indent of Bare lines does not count where one goes on; between quotes only that of Empty ones does not.
func TestBareLines(t *testing.T) {
	for n := -1; n < 4; n++ {
		for _, bare := range []string{"", "#", "#,]}'", "\t", "\t#", " ", " #", "  \t", "  \t#", "     #"} {
			for s, want := range map[string]string{"&a\n%\n    b": "&a :b @2:5", "[\n%\n    ]": "[ ] @2:5", "[a\n%\n    , b]": "[ :a :b ] @2:8", "{a:\n%\n    b\n%\n    }": "{ :a :b } @4:5", "[?\n%\n%\n    a]": "[ { :a : } ] @3:6", "\n%\n    *b": "*b @2:6"} {
				check(t, strings.ReplaceAll(s, "%", bare), n, want)
			}
			text := strings.ReplaceAll("'a\n%\n    b'", "%", bare)
			indent := len(bare) - len(strings.TrimLeft(bare, " "))
			remark := strings.Trim(bare, " \t")
			switch {
			case remark == "":
				check(t, text, n, "'a/b @2:6")
			case indent <= n:
				check(t, text, n, "ErrIndent")
			case remark == "#":
				check(t, text, n, "'a_#_b @2:6")
			}
		}
	}
}

// TestProperties: P1301: none, an anchor, a tag, both, two of one kind, on several lines.
func TestProperties(t *testing.T) {
	checkAll(t, map[string]string{
		"&a b": "&a :b @0:4", "!t b": "!!t :b @0:4", "&a !t b": "&a !!t :b @0:7", "!t &a b": "&a !!t :b @0:7", "&a\tb": "&a :b @0:4", "!t \t b": "!!t :b @0:6",
		"! b": "!! :b @0:3", "!!s b": "!!!s :b @0:5", "!h!s b": "!!h!s :b @0:6", "!<u> b": "!<u :b @0:6", "!<!> b": "!<! :b @0:6", "!<a,[]> b": "!<a,[] :b @0:9", "!a%20 b": "!!a%20 :b @0:7", "!#a b": "!!#a :b @0:5", "!a:b c": "!!a:b :c @0:6",
		"&a": "&a : @0:2", "!t": "!!t : @0:2", "!": "!! : @0:1", "!<u>": "!<u : @0:4", "&a !t": "&a !!t : @0:5", "! &a": "&a !! : @0:4",
		"&é😀 b": "&é😀 :b @0:5", "&a:b c": "&a:b :c @0:6", "!t!u b": "!!t!u :b @0:6", "&'\"#! b": "&'\"#! :b @0:7", "&& b": "&& :b @0:4", "&* b": "&* :b @0:4", "&-?:|>%@`a b": "&-?:|>%@`a :b @0:12",
		"&a\nb": "&a :b @1:1", "&a\n!t\nb": "&a !!t :b @2:1", "!t\n\n &a # c\n#\n  b": "&a !!t :b @4:3", "!t # &a\n&b c": "&b !!t :c @1:4", "\n&a\n\n!t": "&a !!t : @3:2",
		"&a,": "&a : @0:2", "&a]": "&a : @0:2", "&a}": "&a : @0:2", "&a[]": "&a [ ] @0:4", "&a{}": "&a { } @0:4", "!t,": "!!t : @0:2", "!t[]": "!!t [ ] @0:4", "!t{}": "!!t { } @0:4", "![]": "!! [ ] @0:3", "!,": "!! : @0:1", "!<u>[]": "!<u [ ] @0:6", "&a !t,": "&a !!t : @0:5", "&a []": "&a [ ] @0:5", "!t &a {}": "&a !!t { } @0:8",
		"&a 'b'": "&a 'b @0:6", "!t \"b\"": "!!t \"b @0:6", "&a !t 'b'": "&a !!t 'b @0:9", "&a -1": "&a :-1 @0:5",
	})
	checkWrong(t, "&", "& a", "&,", "&[", "&]", "&\ta", "&\n", "&a &b c", "&a &b", "!a !b c", "!a !b", "&a !t &b c", "!t &a !u c", "&a &a c", "! ! a", "!t\n&a\n!u", "&a\n&b c", "&a &", "!t !",
		"!!", "!! a", "!!,", "!h!", "!h! a", "!<", "!<> a", "!<u a", "!<u", "!<u>b", "!<u>'b'", "!<u>&a b", "!t\"b\"", "!t{", "!t|", "!t<", "!t>", "!t%", "!t%2", "!té b", "!t\\ b", "!t^ b", "!a`b c", "&a\x00", "&a\x7f b", "&a\ufeff b", "!t\ufeff b", "!t\x00", "&\ufeff", "&\x00 b")
}

// TestNames: P1301: each code point behind a name, of which some go on with it, some end it and some may not stand there.
func TestNames(t *testing.T) {
	for c := -3; c < 70000; c++ {
		ends := c == 9 || c == 32 || chars.Flow(c)
		inTag := chars.Word(c) || c >= 0 && c < 128 && strings.ContainsRune("#;/?:@&=+$_.~*'()!", rune(c))
		for s, goesOn := range map[string]bool{"&a": chars.Name(c), "*a": chars.Name(c), "!t": inTag, "!<u>": false, "!": inTag} {
			l := []api.Line{{Text: append(points(s), c)}}
			_, _, column, e := New(l).Node(0, 0, -1, 0)
			want := len(s)
			switch {
			case s == "!" && c == '!' || s == "!t" && c == '!': // a handle with nothing behind it
				want = 0
			case c == '[' || c == '{': // what opens and is not closed
				want = 0
			case goesOn:
				want = len(s) + 1
			case !ends:
				want = 0
			}
			if s == "*a" && (c == '[' || c == '{') {
				want = 2
			}
			if column != want || (e == api.ErrSyntax) != (want == 0) {
				t.Errorf("P1301: %q with %d behind it: %d, %v, not %d", s, c, column, e, want)
			}
		}
	}
}

// TestAlias: P1301: alone, with properties, without a name, with what does not end a name behind it.
func TestAlias(t *testing.T) {
	checkAll(t, map[string]string{
		"*a": "*a @0:2", " *a ": "*a @0:3", "*a b": "*a @0:2", "*a,": "*a @0:2", "*a]": "*a @0:2", "*a[": "*a @0:2", "*a:": "*a: @0:3", "*a: b": "*a: @0:3", "*a#": "*a# @0:3", "**": "** @0:2", "*é": "*é @0:2", "*&a": "*&a @0:3", "*'a'": "*'a' @0:4", "\n *a": "*a @1:3", "*a\nb": "*a @0:2",
		"[*a]": "[ *a ] @0:4", "[*a, *a]": "[ *a *a ] @0:8", "{*a : *b}": "{ *a *b } @0:9", "{*a}": "{ *a : } @0:4", "{*a: b}": "ErrSyntax", "{*a :b}": "ErrSyntax", "{*a:b}": "{ *a:b : } @0:6", "[*a : b]": "[ { *a :b } ] @0:8", "[? *a : *b]": "[ { *a *b } ] @0:11",
	})
	checkWrong(t, "*", "* a", "*,", "*[", "*\t", "*\na", "&a *b", "!t *b", "&a !t *b", "&a\n*b", "! *b", "&a *", "*\x00", "*a\x00", "*a\ufeff", "[&a *b]", "{&a *b : c}", "[*a b]", "[*a *b]", "[*a 'b']", "{*a *b}")
}

// TestQuotes: P1301: on one line and on several, of each kind.
func TestQuotes(t *testing.T) {
	for s, want := range map[string]string{
		"''": "' @0:2", "'a'": "'a @0:3", "' a '": "'_a_ @0:5", "'a b'": "'a_b @0:5", "'a'b": "'a @0:3", "'a' b": "'a @0:3", "'[a, b]: #c & *'": "'[a,_b]:_#c_&_* @0:16", "' # a'": "'_#_a @0:6", "'é😀'": "'é😀 @0:4", "'a\tb'": "'a~b @0:5",
		"'a\nb'": "'a_b @1:2", "'a \n  b'": "'a_b @1:4", "'a\t\n\t b'": "'a_b @1:4", "'\na'": "'_a @1:2", "'a\n'": "'a_ @1:1", "'\n'": "'_ @1:1", "'  \n  '": "'_ @1:3", "'a\n\nb'": "'a/b @2:2", "'a\n\n\nb'": "'a//b @3:2", "'a\n \n\t\n  b'": "'a//b @3:4", "'\n\na'": "'/a @2:2", "'a\n\n'": "'a/ @2:1", "'a\n#b\nc'": "'a_#b_c @2:2", "'a\n  b  \n c '": "'a_b_c_ @2:4",
		"'a\n]b'": "'a_]b @1:3", "'a\n- b'": "'a_-_b @1:4",
	} {
		check(t, s, -1, want)
		swap := strings.NewReplacer("'", "\"")
		check(t, swap.Replace(s), -1, swap.Replace(want))
		check(t, "&x "+s+" ", -1, "&x "+moved(want, 3))
	}
	checkAll(t, map[string]string{
		"''''": "'' @0:4", "'a''b'": "'a'b @0:6", "'''a'": "''a @0:5", "'a'''": "'a' @0:5", "'a\"b'": "'a\"b @0:5", "'\\'": "'\\ @0:3", "'\\n'": "'\\n @0:4", "'a''\nb'": "'a'_b @1:2", "'a\n''b'": "'a_'b @1:4", "'a'\n'": "'a @0:3", "'a\\\nb'": "'a\\_b @1:2",
		"\"a'b\"": "\"a'b @0:5", "\"''\"": "\"'' @0:4", "\"\\\"\"": "\"\" @0:4", "\"a\\\\\"": "\"a\\ @0:5", "\"a\\\nb\"": "\"ab @1:2", "\"a \\\n  b\"": "\"a_b @1:4", "\"a\\\n\\ b\"": "\"a_b @1:4", "\"\\n\\t\"": "\"/~ @0:6", "\"\\x41\\u00e9\\U0001f600\"": "\"Aé😀 @0:22", "\"\\0\"": "\"\x00 @0:4", "\"a\\\n\n b\"": "\"a_b @2:3", "\"\\\"\n\"": "\"\"_ @1:1", "\"\\\\\n\"": "\"\\_ @1:1", "\"a\"\"": "\"a @0:3",
	})
	checkWrong(t, "'", "\"", "'a", "\"a", "'a\nb", "\"a\nb", "'a''", "'''", "\"\\\"", "\"a\\", "'a\n\n", "\"a\n\n", "'a\n---\n'", "\"a\n---\n\"", "'a\n... b\n'", "\"a\n...\n\"", "\"\n--- \"", "'a\"", "\"a'",
		"\"\\z\"", "\"\\x4\"", "\"\\xg0\"", "\"\\u004\"", "\"\\U0001f60\"", "\"\\'\"", "\"a\n\\z\nb\"", "\"\\\n\\1\"", "[\"\\z\"]", "{\"\\z\": a}", "{a: \"\\z\"}")
	for _, s := range []string{"\"\\ud800\"", "\"\\uDFFF\"", "\"\\U00110000\"", "\"\\Uffffffff\"", "\"a\n\\ud800\nb\"", "[\"\\ud800\"]", "{\"\\ud800\" : a}", "[a, \"\\ud800\", \"\\z\"]", "&a !t \"\\ud800\""} {
		check(t, s, -1, "ErrChar")
	}
}

// moved is want with its place so many columns further, if that is on the first line.
func moved(want string, by int) string {
	head, column, isFirst := strings.Cut(want, "@0:")
	if !isFirst {
		return want
	}
	at, _ := strconv.Atoi(column)
	return head + "@0:" + strconv.Itoa(at+by)
}

// TestQuoteIndent: P1301: each line between quotes that is not Empty stands above n; a Marker is none of them.
func TestQuoteIndent(t *testing.T) {
	for _, q := range []string{"'", "\""} {
		for s, want := range map[string]string{
			"%a\n b%": "ok", "%a\n%": "ErrIndent", "%a\nb%": "ErrIndent", "%a\n\n%": "ErrIndent", "%a\n\n\n b%": "ok", "%a\n\t\n b%": "ok", "%a\n\tb%": "ErrIndent", "%a\n\t%": "ErrIndent", "%a\n #\n %": "ok", "%a\n#\n %": "ErrIndent", "%a\n b\nc%": "ErrIndent", "%a\n b\n c": "ErrSyntax", "%a\nb": "ErrIndent", "%a\n b\n\n": "ErrSyntax",
			"%a\n---": "ErrSyntax", "%a\n...\n %": "ErrSyntax", "%a\n b\n---": "ErrSyntax", "%a\n ---\n %": "ok", "%a\n---%": "ErrIndent", "%a\n--- %": "ErrSyntax", "%a\n----": "ErrIndent", "%a\nb\n---": "ErrIndent", "%a\n#\n...": "ErrIndent", "%a\n---\nb%": "ErrSyntax",
		} {
			s = strings.ReplaceAll(s, "%", q)
			got := read(all(s), 0, 0, 0, 0)
			if want == "ok" && strings.HasPrefix(got, "Err") || want != "ok" && got != want {
				t.Errorf("P1301: %q within 0: %s, not %s", s, got, want)
			}
		}
	}
}

// TestMarkerBehindQuote: P1301: at a Marker behind an open quote it is over, whatever n is; a line ahead of it that is not Empty and not above n is met first.
func TestMarkerBehindQuote(t *testing.T) {
	markers := []string{"---", "...", "--- ", "...\t", "--- b", "... # c", "--- %", "...\t%]}", "---\n%", "...\n   %]", "---\n---"}
	begins := []string{"%", "%a", "&x %a", "[%a", "[b, %a", "[? %a", "[b: %a", "{%a", "{b: %a", "{? %a", "[{%a", "[\n      %a", "%a\n      b", "%a\n      ---"}
	for _, q := range []string{"'", "\""} {
		for _, begin := range begins {
			for _, marker := range markers {
				for _, empty := range []string{"\n", "\n\n", "\n \n\t\n"} {
					text := strings.ReplaceAll(begin+empty+marker, "%", q)
					for _, n := range []int{math.MinInt, -1, 0, 1, 5} {
						check(t, text, n, "ErrSyntax")
					}
				}
				for _, low := range []string{"b", " b", "\tb", "#", " ---", "----", "...b"} {
					text := strings.ReplaceAll(begin+"\n"+low+"\n"+marker, "%", q)
					check(t, text, 1, "ErrIndent")
				}
			}
		}
		check(t, q+"a\n---", math.MaxInt, "ErrSyntax")
		l := all(strings.ReplaceAll("--- # c\n%q% : # c\n - &a\n   a#b # c\n - !t y\n---", "%", q))
		for n, want := range []string{"ErrSyntax", "ErrIndent", "ErrIndent"} {
			if got := read(l, 1, 2, n, 0); got != want {
				t.Errorf("P1301: behind %s on further lines, within %d: %s, not %s", q, n, got, want)
			}
		}
	}
}

// TestBrackets: P1301: empty, one entry, several, commas at each place, closed or not, in each other.
func TestBrackets(t *testing.T) {
	checkAll(t, map[string]string{
		"[]": "[ ] @0:2", "[ ]": "[ ] @0:3", "[\n]": "[ ] @1:1", "[\n\n # ]\n\t]": "[ ] @3:2", "[] a": "[ ] @0:2", "[a]b]": "[ :a ] @0:3", "[a b 'c']": "[ :a_b_'c' ] @0:9", "[]]": "[ ] @0:2", "[][]": "[ ] @0:2", "[]:": "[ ] @0:2", "[],": "[ ] @0:2",
		"[a]": "[ :a ] @0:3", "[ a ]": "[ :a ] @0:5", "[a,]": "[ :a ] @0:4", "[a , ]": "[ :a ] @0:6", "[a\n,\n]": "[ :a ] @2:1", "[a,b]": "[ :a :b ] @0:5", "[a, b,]": "[ :a :b ] @0:7", "[a,b,c]": "[ :a :b :c ] @0:7", "[a\n,b\n,c\n]": "[ :a :b :c ] @3:1", "[a #\n, # b\nc]": "[ :a :c ] @2:2", "[a b\nc]": "[ :a_b_c ] @1:2",
		"['a','b']": "[ 'a 'b ] @0:9", "['a' , \"b\"]": "[ 'a \"b ] @0:11", "[[],[]]": "[ [ ] [ ] ] @0:7", "[{},[]]": "[ { } [ ] ] @0:7", "[[a],[b,c]]": "[ [ :a ] [ :b :c ] ] @0:11", "[[[[]]]]": "[ [ [ [ ] ] ] ] @0:8", "[[],]": "[ [ ] ] @0:5", "[{a: [b]}]": "[ { :a [ :b ] } ] @0:10", "[[]\n]": "[ [ ] ] @1:1",
		"{}": "{ } @0:2", "{ }": "{ } @0:3", "{\n}": "{ } @1:1", "{a: b}": "{ :a :b } @0:6", "{a: b,}": "{ :a :b } @0:7", "{a: b , }": "{ :a :b } @0:9", "{a: b,c: d}": "{ :a :b :c :d } @0:11", "{a: b\n,\nc: d\n}": "{ :a :b :c :d } @3:1", "{a # x\n: # y\nb # z\n}": "{ :a :b } @3:1", "{} {}": "{ } @0:2", "{}}": "{ } @0:2",
		"{a: {b: {c: {}}}}": "{ :a { :b { :c { } } } } @0:17", "{a: [b, {c: d}], e}": "{ :a [ :b { :c :d } ] :e : } @0:19", "{{}: {}}": "{ { } { } } @0:8", "{{a: b}: c}": "{ { :a :b } :c } @0:11", "{[a, b]: c}": "{ [ :a :b ] :c } @0:11",
		"&a [&b []]": "&a [ &b [ ] ] @0:10", "!t {!u a: !v b}": "!!t { !!u :a !!v :b } @0:15", "&a !t [!u &b {}]": "&a !!t [ &b !!u { } ] @0:16",
	})
	checkWrong(t, "[", "{", "[[", "[[]", "[{", "[{}", "{[", "[a", "[a,", "{a", "{a,", "{a:", "{a: b", "{a: b,", "[a: b", "]", "}", ",",
		"[,]", "[,a]", "[ , a]", "[,", "[a,,]", "[a,,b]", "[a, ,b]", "[a,\n,b]", "[a,b,,]", "{,}", "{,a}", "{a,,}", "{a,,b}", "{a: b,,c}", "{a: b, ,c: d}",
		"[}", "{]", "[a}", "{a]", "{a: b]", "[a,}", "{a,]", "[[}]", "[[]}", "{{]}", "[{]}", "[{}}", "{a: [}]", "{a: []]", "[a: b}", "[? a}", "{? a]", "[?}", "{?]", "{a: ]", "[a: }",
		"['a' b]", "['a' 'b']", "[\"a\"'b']", "[[] a]", "[[][]]", "[{}[]]", "[a []]x", "{a: b c: d}", "{'a' 'b'}", "{a: 'b' c}", "{a: [] b}", "{[] []}", "[a\n b: c: d]", "[- a]", "[-]", "[- ]", "[-, a]", "[%]", "[@a]", "[`]", "[|]", "[>a]", "[#]", "[a;")
}

// TestPlain: P1301: plain texts, and what stops them.
func TestPlain(t *testing.T) {
	for s, want := range map[string]string{
		"a": ":a @0:1", "a b": ":a_b @0:3", " a  b ": ":a__b @0:5", "a\tb": ":a~b @0:3", "a\t": ":a @0:1", "-a": ":-a @0:2", "?a": ":?a @0:2", ":a": "::a @0:2", "--": ":-- @0:2", "::": ":: @0:1", "-:": ":- @0:1", "?:": ":? @0:1", "\\": ":\\ @0:1", "a:b": ":a:b @0:3", "a:": ":a @0:1", "a: b": ":a @0:1", "a :b": ":a_:b @0:4", "a : b": ":a @0:1", "a::b": ":a::b @0:4", "a#": ":a# @0:2", "a #": ":a @0:1", "a #b": ":a @0:1", "é😀": ":é😀 @0:2", "a'b\"": ":a'b\" @0:4", "a&*!|>%@`": ":a&*!|>%@` @0:9",
		"a,": ":a @0:1", "a,b": ":a @0:1", "a ,": ":a @0:1", "a]": ":a @0:1", "a[": ":a @0:1", "a{b}": ":a @0:1", "a}": ":a @0:1", "a:,": ":a @0:1", "a:]": ":a @0:1", "-a, b": ":-a @0:2", "a\x00b": ":a\x00b @0:3", "a\ufeffb": ":a\ufeffb @0:3",
		"a\nb": ":a_b @1:1", "a \n  b": ":a_b @1:3", "a\t\n\tb c\t\n d": ":a_b_c_d @2:2", "a\n\nb": ":a/b @2:1", "a\n\n\nb": ":a//b @3:1", "a\n \n\t\n  b\nc": ":a//b_c @4:1", "a\n\n": ":a @0:1", "a\n \t\n": ":a @0:1", "a\nb\n\n": ":a_b @1:1",
		"a\n---": ":a @0:1", "a\n--- b": ":a @0:1", "a\n...": ":a @0:1", "a\n\n---\nb": ":a @0:1", "a\nb\n...": ":a_b @1:1", "a\n ---": ":a_--- @1:4", "a\n---b": ":a_---b @1:4",
		"a\n#b": ":a @0:1", "a\n # b\nc": ":a @0:1", "a\n\t#b": ":a @0:1", "a\nb\n\n# c\nd": ":a_b @1:1", "a\nb # c\nd": ":a_b @1:1", "a # b\nc": ":a @0:1", "a\nb#\nc": ":a_b#_c @2:1", "a\nb\t#\nc": ":a_b @1:1",
		"a\n,": ":a @0:1", "a\n]": ":a @0:1", "a\n}b": ":a @0:1", "a\n[b]": ":a @0:1", "a\n {b}": ":a @0:1", "a\n\t,": ":a @0:1", "a\n: b": ":a @0:1", "a\n:": ":a @0:1", "a\n\t: b": ":a @0:1", "a\n:b": ":a_:b @1:2", "a\n\n:, b": ":a @0:1", "a,\nb": ":a @0:1", "a: \nb": ":a @0:1",
		"a\nb: c": ":a_b @1:1", "a\nb : c\nd": ":a_b @1:1", "a\nb, c": ":a_b @1:1", "a\nb]\nc": ":a_b @1:1", "a\nb \nc": ":a_b_c @2:1",
		"a\n- b": ":a_-_b @1:3", "a\n? b": ":a_?_b @1:3", "a\n-": ":a_- @1:1", "a\n'b'": ":a_'b' @1:3", "a\n\"b": ":a_\"b @1:2", "a\n&b *c !d": ":a_&b_*c_!d @1:8", "a\n|\n>": ":a_|_> @2:1", "a\n%b": ":a_%b @1:2", "a\n\\": ":a_\\ @1:1", "a\n@\n`": ":a_@_` @2:1",
	} {
		check(t, s, -1, want)
	}
	for n := -1; n < 4; n++ {
		check(t, "a\n  b\n\n   c\n    d", n, []string{":a_b/c_d @4:5", ":a_b/c_d @4:5", ":a_b/c_d @4:5", ":a @0:1", ":a @0:1"}[n+1])
		check(t, "a\n    b\n   c\n  d\n    e", n, []string{":a_b_c_d_e @4:5", ":a_b_c_d_e @4:5", ":a_b_c_d_e @4:5", ":a_b_c @2:4", ":a_b @1:5"}[n+1])
		check(t, "a\n\n\t\n   b", n, []string{":a//b @3:4", ":a//b @3:4", ":a//b @3:4", ":a//b @3:4", ":a @0:1"}[n+1])
	}
}

// TestNothing: P1301: an empty node has properties, and its place is behind them.
func TestNothing(t *testing.T) {
	for _, behind := range []string{"", " ", "\t", "\n", "  \n\n", " #", " # a\n#\n", ",", " ,", "\n,", "]", "  ]", " # c\n\n }", "}", " :", " : a", "\n: a", "\n:", " :,", " -", " - a", "\n- a", " ?", " ? a", " |", " > a", " %a", " @", " `", " \x00", " \ufeff"} {
		check(t, "&a"+behind, -1, "&a : @0:2")
		check(t, "!t &a"+behind, -1, "&a !!t : @0:5")
		check(t, "&a\n !t"+behind, -1, "&a !!t : @1:3")
		check(t, behind, -1, "ErrSyntax")
	}
	checkAll(t, map[string]string{
		"[&a]": "[ &a : ] @0:4", "[&a ]": "[ &a : ] @0:5", "[&a,!t]": "[ &a : !!t : ] @0:7", "[&a\n,\n!t # ]\n]": "[ &a : !!t : ] @3:1", "[! ]": "[ !! : ] @0:4", "[!]": "[ !! : ] @0:3", "{&a}": "{ &a : : } @0:4", "{a: &b}": "{ :a &b : } @0:7", "{&a : &b}": "{ &a : &b : } @0:9", "{&a,&b}": "{ &a : : &b : : } @0:7", "{a: !t,}": "{ :a !!t : } @0:8", "[&a : b]": "[ { &a : :b } ] @0:8", "[? &a : !t]": "[ { &a : !!t : } ] @0:11", "[? &a]": "[ { &a : : } ] @0:6", "[a: &b ,c]": "[ { :a &b : } :c ] @0:10", "[&a :]": "[ { &a : : } ] @0:6", "[&a\n: b]": "ErrSyntax", "{&a\n: b}": "{ &a : :b } @1:4", "[&a ? b]": "ErrSyntax", "{&a ? b}": "ErrSyntax",
	})
}

// TestPairs: P1301: entries of braces.
func TestPairs(t *testing.T) {
	checkAll(t, map[string]string{
		"{a}": "{ :a : } @0:3", "{a,b}": "{ :a : :b : } @0:5", "{a,b: c,d}": "{ :a : :b :c :d : } @0:10", "{a:}": "{ :a : } @0:4", "{a: }": "{ :a : } @0:5", "{a:,}": "{ :a : } @0:5", "{a: ,b: }": "{ :a : :b : } @0:9", "{a :}": "{ :a : } @0:5", "{a : b}": "{ :a :b } @0:7", "{a:\tb}": "{ :a :b } @0:6", "{a:b}": "{ :a:b : } @0:5", "{a:b: c}": "{ :a:b :c } @0:8", "{a::b}": "{ :a::b : } @0:6", "{a:: b}": "{ :a: :b } @0:7", "{a: :b}": "{ :a ::b } @0:7", "{a:[b]}": "{ :a [ :b ] } @0:7", "{a:{}}": "{ :a { } } @0:6", "{a:'b'}": "{ :a:'b' : } @0:7", "{a :'b'}": "{ :a_:'b' : } @0:8",
		"{:a}": "{ ::a : } @0:4", "{:a: b}": "{ ::a :b } @0:7", "{-a: -b}": "{ :-a :-b } @0:8", "{?a: ?b}": "{ :?a :?b } @0:8", "{??: a}": "{ :?? :a } @0:7",
		"{'a'}": "{ 'a : } @0:5", "{'a':}": "{ 'a : } @0:6", "{'a':b}": "{ 'a :b } @0:7", "{'a': b}": "{ 'a :b } @0:8", "{'a' : b}": "{ 'a :b } @0:9", "{'a' :b}": "ErrSyntax", "{'a'\t:b}": "ErrSyntax", "{'a'\n: b}": "{ 'a :b } @1:4", "{'a'\n:b}": "ErrSyntax", "{'a':'b'}": "{ 'a 'b } @0:9", "{'a'::b}": "{ 'a ::b } @0:8", "{'a':::b}": "{ 'a :::b } @0:9", "{'a':,b}": "{ 'a : :b : } @0:8", "{'a'::}": "ErrSyntax", "{'a'::,}": "ErrSyntax", "{&x 'a':b}": "{ &x 'a :b } @0:10", "{'a\nb':c}": "{ 'a_b :c } @1:5", "{\"a\":b,\"c\":\"d\"}": "{ \"a :b \"c \"d } @0:15", "{\"a\" :b}": "ErrSyntax",
		"{[]:b}": "{ [ ] :b } @0:6", "{[] :b}": "ErrSyntax", "{[] : b}": "{ [ ] :b } @0:8", "{[a\n]:b}": "{ [ :a ] :b } @1:4", "{{}:b}": "{ { } :b } @0:6", "{{} :b}": "ErrSyntax", "{{}:{}}": "{ { } { } } @0:7", "{{}\n:b}": "ErrSyntax", "{[]:[]:b}": "ErrSyntax", "{[[]:a]:b}": "{ [ { [ ] :a } ] :b } @0:10", "{[]}": "{ [ ] : } @0:4", "{[],{}}": "{ [ ] : { } : } @0:7",
		"{*a :b}": "ErrSyntax", "{*a : b}": "{ *a :b } @0:8", "{&a :b}": "{ &a ::b : } @0:7", "{&a : b}": "{ &a : :b } @0:8", "{!t :b}": "{ !!t ::b : } @0:7", "{!t:b}": "{ !!t:b : : } @0:6",
		"{a\n:\nb\n}": "{ :a :b } @3:1", "{a\nb: c\nd}": "{ :a_b :c_d } @2:2", "{a\n\nb : c}": "{ :a/b :c } @2:6", "{a # c\n: b}": "{ :a :b } @1:4", "{a: # c\n\nb}": "{ :a :b } @2:2", "{a\n:b}": "{ :a_:b : } @1:3",
		"{? a}": "{ :a : } @0:5", "{? a: b}": "{ :a :b } @0:8", "{? a : b}": "{ :a :b } @0:9", "{? a, b}": "{ :a : :b : } @0:8", "{? a,? b}": "{ :a : :b : } @0:9", "{?\ta}": "{ :a : } @0:5", "{?\na}": "{ :a : } @1:2", "{?\n\n#\na\n:\nb}": "{ :a :b } @5:2", "{? a\n: b\n,}": "{ :a :b } @2:2", "{? 'a':b}": "{ 'a :b } @0:9", "{? 'a' :b}": "ErrSyntax", "{? []:b}": "{ [ ] :b } @0:8", "{?[]: b}": "{ [ ] :b } @0:8", "{?{}}": "{ { } : } @0:5", "{?[]:b}": "{ [ ] :b } @0:7", "{? a\nb: c}": "{ :a_b :c } @1:5", "{? *a : b}": "{ *a :b } @0:10", "{? &a b: c}": "{ &a :b :c } @0:11",
		"{?}": "{ : : } @0:3", "{? }": "{ : : } @0:4", "{?,}": "{ : : } @0:4", "{? , a}": "{ : : :a : } @0:7", "{?,?}": "{ : : : : } @0:5", "{? :}": "{ : : } @0:5", "{? : }": "{ : : } @0:6", "{? : b}": "{ : :b } @0:7", "{? :,}": "{ : : } @0:6", "{?\n:\nb}": "{ : :b } @2:2", "{? :[]}": "{ : [ ] } @0:7", "{? :b}": "{ ::b : } @0:6", "{? :b: c}": "{ ::b :c } @0:9", "{?:b}": "{ :?:b : } @0:5", "{?: b}": "{ :? :b } @0:6", "{?#\n}": "{ :?# : } @1:1", "{?'a'}": "{ :?'a' : } @0:6", "{?\n}": "{ : : } @1:1", "{? # c\n}": "{ : : } @1:1",
		"{'a',? :b}": "{ 'a : ::b : } @0:10", "{'a':b,? : c}": "{ 'a :b : :c } @0:13", "{[],?\n:\n}": "{ [ ] : : : } @2:1",
	})
	checkWrong(t, "{:}", "{: }", "{ : }", "{:,}", "{: a}", "{,}", "{ :\na}", "{a,: b}", "{a: b,: c}", "{:[]}", "{? ? a}", "{? ?}", "{a: ? b}", "{a: : b}", "{a: b: c}", "{a: b : c}", "{? a: b: c}", "{'a': b: c}", "{a: 'b':c}", "{a: []:c}", "{a: - b}", "{- a}", "{a: -}", "{? -}", "{? a\n: b: c}", "{'a'b}", "{'a'b: c}", "{'a' b: c}", "{[]b: c}", "{[] b: c}", "{*a b: c}", "{a: *b c}", "{a: \"b\" \"c\"}", "{a: &b &c d}", "{%a: b}", "{a: @b}")
}

// TestSingles: P1301: entries of brackets.
func TestSingles(t *testing.T) {
	checkAll(t, map[string]string{
		"[a: b]": "[ { :a :b } ] @0:6", "[a:]": "[ { :a : } ] @0:4", "[a: ]": "[ { :a : } ] @0:5", "[a:,b]": "[ { :a : } :b ] @0:6", "[a: , b]": "[ { :a : } :b ] @0:8", "[a: b,]": "[ { :a :b } ] @0:7", "[a: b, c: d]": "[ { :a :b } { :c :d } ] @0:12", "[a, b: c, d]": "[ :a { :b :c } :d ] @0:12", "[a:b]": "[ :a:b ] @0:5", "[a : b]": "[ { :a :b } ] @0:7", "[a\t: b]": "[ { :a :b } ] @0:7", "[a :b]": "[ :a_:b ] @0:6", "[:a]": "[ ::a ] @0:4", "[:a: b]": "[ { ::a :b } ] @0:7", "[a:[b]]": "[ { :a [ :b ] } ] @0:7", "[a:{}]": "[ { :a { } } ] @0:6",
		"['a':b]": "[ { 'a :b } ] @0:7", "['a': b]": "[ { 'a :b } ] @0:8", "['a' : b]": "[ { 'a :b } ] @0:9", "['a' :b]": "ErrSyntax", "[\"a\":b]": "[ { \"a :b } ] @0:7", "[\"a\" :b]": "ErrSyntax", "['a'::b]": "[ { 'a ::b } ] @0:8", "['a':]": "[ { 'a : } ] @0:6", "['a':,]": "[ { 'a : } ] @0:7", "[&x 'a':b]": "[ { &x 'a :b } ] @0:10", "[[]:b]": "[ { [ ] :b } ] @0:6", "[[] :b]": "ErrSyntax", "[[] : b]": "[ { [ ] :b } ] @0:8", "[{}:b]": "[ { { } :b } ] @0:6", "[{a: b}: c]": "[ { { :a :b } :c } ] @0:11", "[[a: b]: c]": "[ { [ { :a :b } ] :c } ] @0:11", "[[[]:a]:b]": "[ { [ { [ ] :a } ] :b } ] @0:10", "[[]:[]:b]": "ErrSyntax", "[&x []:b]": "[ { &x [ ] :b } ] @0:9",
		"[*a : b]": "[ { *a :b } ] @0:8", "[*a :b]": "ErrSyntax", "[&a : b]": "[ { &a : :b } ] @0:8", "[&a b: c]": "[ { &a :b :c } ] @0:9", "[!t a: !u b]": "[ { !!t :a !!u :b } ] @0:12", "[&a\nb: c]": "ErrSyntax", "[&a b\n: c]": "ErrSyntax", "[a: [b: [c: d]]]": "[ { :a [ { :b [ { :c :d } ] } ] } ] @0:16",
		"[a\n: b]": "ErrSyntax", "[a\n:b]": "[ :a_:b ] @1:3", "[a\nb: c]": "ErrSyntax", "['a'\n: b]": "ErrSyntax", "['a\nb': c]": "ErrSyntax", "['a\nb':c]": "ErrSyntax", "[[\n]: b]": "ErrSyntax", "[[]\n: b]": "ErrSyntax", "[{\n}:b]": "ErrSyntax", "[a # c\n: b]": "ErrSyntax", "[\n\na: b]": "[ { :a :b } ] @2:5", "[a,\n  b: c]": "[ :a { :b :c } ] @1:7", "[a:\nb]": "[ { :a :b } ] @1:2", "[a: b\nc]": "[ { :a :b_c } ] @1:2", "[a: b\n,c]": "[ { :a :b } :c ] @1:3", "[a: # c\nb]": "[ { :a :b } ] @1:2", "[a:\n,\nb:\n]": "[ { :a : } { :b : } ] @3:1",
		"[? a]": "[ { :a : } ] @0:5", "[? a: b]": "[ { :a :b } ] @0:8", "[? a, b]": "[ { :a : } :b ] @0:8", "[? a\n: b]": "[ { :a :b } ] @1:4", "[?\na\nb\n:\nc]": "[ { :a_b :c } ] @4:2", "[? 'a':b]": "[ { 'a :b } ] @0:9", "[? 'a' :b]": "ErrSyntax", "[? 'a\nb':c]": "[ { 'a_b :c } ] @1:5", "[? [\n]:c]": "[ { [ ] :c } ] @1:4", "[?[]:b]": "[ { [ ] :b } ] @0:7", "[?]": "[ { : : } ] @0:3", "[? ]": "[ { : : } ] @0:4", "[?,]": "[ { : : } ] @0:4", "[?,?]": "[ { : : } { : : } ] @0:5", "[? :]": "[ { : : } ] @0:5", "[? : b]": "[ { : :b } ] @0:7", "[? :,a]": "[ { : : } :a ] @0:7", "[? :b]": "[ { ::b : } ] @0:6", "[?a]": "[ :?a ] @0:4", "[?a: b]": "[ { :?a :b } ] @0:7", "[? a: ]": "[ { :a : } ] @0:7", "[? [a: b]: [c: d]]": "[ { [ { :a :b } ] [ { :c :d } ] } ] @0:18", "[? &a b: c]": "[ { &a :b :c } ] @0:11", "[? ?a]": "[ { :?a : } ] @0:6", "[a ? b]": "[ :a_?_b ] @0:7", "[? {? a}]": "[ { { :a : } : } ] @0:9", "['a',? :b]": "[ 'a { ::b : } ] @0:10",
		"[? a, b: c, d, ? e : f]": "[ { :a : } { :b :c } :d { :e :f } ] @0:23",
	})
	checkWrong(t, "[:]", "[: ]", "[ : ]", "[: a]", "[:,]", "[a,: b]", "[? ? a]", "[? ?]", "[a: ? b]", "[a: b: c]", "[? a: b: c]", "[a: 'b': c]", "[a: 'b':c]", "[a: [] : c]", "[a: : b]", "[a: -]", "[? -]", "[? ,,]", "[? }]", "[a: }]", "[? :}]", "[? a b\n: c: d]", "[a: b\n: c]", "[? a\n: b\n: c]", "[a: *b : c]", "[a: &b : c]")
}

// TestMaxKey: P1301: a sign of value in brackets, MaxKey code points behind its node's beginning and one more; elsewhere it does not count.
func TestMaxKey(t *testing.T) {
	for _, x := range []struct{ ahead, begin, end, behind string }{
		{"[", "", "", "]"}, {"[", "'", "'", "]"}, {"[", "\"", "\"", "]"}, {"[", "[", "]", "]"}, {"[", "{", "}", "]"}, {"[", "&x ", "", "]"}, {"[", "!t &x '", "'", "]"}, {"[", "*", " ", "]"}, {"[", "&x !t:", " ", "]"}, {"[b,   ", "", "  \t", ", c]"}, {"[\n     ", "é", "", "]"}, {"{b: [a, ", "[", ", c]", "]}"}, {"[? ", "[[", "]: 'b']", "]"},
	} {
		for size := api.MaxKey - 2; size < api.MaxKey+3; size++ {
			body := strings.Repeat("k", size-len([]rune(x.begin+x.end)))
			s := x.ahead + x.begin + body + x.end + ": v" + x.behind
			got := read(all(s), 0, 0, -1, 0)
			if right := size <= api.MaxKey || x.ahead == "[? "; right == strings.HasPrefix(got, "Err") || !right && got != "ErrSyntax" {
				t.Errorf("P1301: %q: %d: %.30s", x, size, got)
			}
		}
	}
	for _, size := range []int{1023, 1024, 1025, 5000} {
		key := strings.Repeat("é", size)
		for _, s := range []string{"{%: v}", "{'%':v}", "{[%]: v}", "[? %: v]", "[? '%':v]", "[%, v]", "[a: %]", "{? % : v}"} {
			if got := read(all(strings.ReplaceAll(s, "%", key)), 0, 0, -1, 0); strings.HasPrefix(got, "Err") {
				t.Errorf("P1301: %q with %d: %s", s, size, got)
			}
		}
	}
}

// TestDeep: P1301: what opens where there are MaxDepth already.
func TestDeep(t *testing.T) {
	// How many collections stand in each other in each of these texts, at the place where the deepest one opens.
	for s, tall := range map[string]int{
		"a": 0, "'a'": 0, "*a": 0, "&a": 0, "!t b": 0, "[]": 1, "{}": 1, "&a []": 1, "!t {}": 1, "[a]": 1, "{a: b}": 1, "[a, b]": 1, "[[]]": 2, "[{}]": 2, "{[]}": 2, "{a: []}": 2, "{[]: a}": 2, "{? []}": 2, "[a, [], b]": 2, "[[], a]": 2,
		"[a: b]": 2, "[a:]": 2, "[? a]": 2, "[?]": 2, "[a, b: c]": 2, "['a':b]": 2, "[[]: b]": 3, "[a: []]": 3, "[[a]: [b]]": 3, "[? []]": 3, "[? a: []]": 3, "[{}: b]": 3, "[[[]]: b]": 4, "[{a: {}}: b]": 4, "[[a: b]: c]": 4, "[[a: []]: c]": 5, "[[[]: a]: b]": 5, "[[[[]: a]: b]: c]": 7, "[[? a]: b]": 4, "[[[], []], []: b]": 3, "[[], [[]: b]]": 4, "[[[]], a: b]": 3, "[[[[]]], a: b]": 4, "[[a: [[]]], b: c]": 5, "[a: b, [[]]]": 3, "[? a, []: b]": 3, "{a: [b: c]}": 3, "{[b: c]: a}": 3, "{[[]: c]: a}": 4, "[{[]: a}: b]": 4, "[{a: [b: c]}: d]": 5, "[[a, b: c, d]: e]": 4,
	} {
		for _, deep := range []int{-1000, -1, 0, 1, 150, 190, 191, 192, 193, 194, 195, 196, 197, 198, 199, 200} {
			got := read(all(s), 0, 0, -1, deep)
			if tooDeep := deep+tall > api.MaxDepth; tooDeep != (got == "ErrDeep") || !tooDeep && got != read(all(s), 0, 0, -1, 0) {
				t.Errorf("P1301: %q in %d: %s", s, deep, got)
			}
		}
	}
	for _, deep := range append(far(), -200, -1, 0, 199, 200, 201, 1000) {
		for s, want := range map[string]string{"a": ":a @0:1", "[]": "[ ] @0:2", "{a}": "{ :a : } @0:3", "&a": "&a : @0:2", "'a": "ErrSyntax"} {
			if deep >= 200 && (s[0] == '[' || s[0] == '{') {
				want = "ErrDeep"
			}
			if got := read(all(s), 0, 0, -1, deep); got != want {
				t.Errorf("P1301: %q in %d: %s, not %s", s, deep, got, want)
			}
		}
	}
}

// TestMaxDepth: P1301: texts with MaxDepth collections in each other and one more, of each kind.
func TestMaxDepth(t *testing.T) {
	for _, x := range []struct {
		begin, end string
		tall       int
	}{{"[", "]", 1}, {"{", "}", 1}, {"{a: ", "}", 1}, {"{? ", ": a}", 1}, {"{", " : a}", 1}, {"[a: ", "]", 2}, {"[? ", "]", 2}, {"[? a: ", "]", 2}, {"[", ": a]", 2}, {"[b,", ": a]", 2}, {"[{", ": a}]", 2}, {"&a [", "]", 1}, {"[a,\n", ",\nb]", 1}} {
		for count := api.MaxDepth/x.tall - 2; count <= api.MaxDepth/x.tall+2; count++ {
			s := strings.Repeat(x.begin, count) + "x" + strings.Repeat(x.end, count)
			_, _, _, e := New(all(s)).Node(0, 0, -1, 0)
			want := api.OK
			if count*x.tall > api.MaxDepth {
				want = api.ErrDeep
			}
			if e != want {
				t.Errorf("P1301: %d of %v: %v, not %v", count, x, e, want)
			}
			if _, _, _, e := New(all(s)).Node(0, 0, -1, -1000); e != api.OK {
				t.Errorf("P1301: %d of %v in -1000: %v", count, x, e)
			}
		}
	}
}

// TestWhereDeep: P1301, P1303: ErrDeep is told where one opens, other errors where they are met.
func TestWhereDeep(t *testing.T) {
	for s, want := range map[string]string{
		"[[": "ErrDeep", "[[,": "ErrDeep", "[,[": "ErrSyntax", "[a,,[]": "ErrSyntax", "[a}[": "ErrSyntax", "[&a &b []]": "ErrSyntax", "[&a [": "ErrDeep", "[&a\n[": "ErrDeep", "[*a []]": "ErrSyntax", "[&a *b, []]": "ErrSyntax", "[\"\\ud800\", []]": "ErrChar", "[[], \"\\ud800\"]": "ErrDeep", "[\"\\z\": []]": "ErrSyntax",
		"[a: ": "ErrDeep", "[a:": "ErrDeep", "[a: ,,": "ErrDeep", "[a : \"\\ud800\"": "ErrDeep", "['a':b": "ErrDeep", "['a' :b": "ErrSyntax", "[a\n: b": "ErrSyntax", "[a\n b: c]": "ErrSyntax", "[a b, c:": "ErrDeep", "[a:b": "ErrSyntax", "[: a": "ErrSyntax", "[\"\\z\":a]": "ErrSyntax",
		"[?": "ErrDeep", "[? ": "ErrDeep", "[? ,,": "ErrDeep", "[?\n---": "ErrDeep", "[?a": "ErrSyntax", "[? \"\\z\"": "ErrDeep", "[,? ": "ErrSyntax", "[a ? ": "ErrSyntax",
		"{[": "ErrDeep", "{a: [": "ErrDeep", "{a: {": "ErrDeep", "{? a": "ErrSyntax", "{? [": "ErrDeep", "{: [": "ErrSyntax", "{a b: c: []}": "ErrSyntax", "{a: b}": "{ :a :b } @0:6",
	} {
		if got := read(all(s), 0, 0, -1, api.MaxDepth-1); got != want {
			t.Errorf("P1301, P1303: %q in MaxDepth - 1: %s, not %s", s, got, want)
		}
	}
	for s, want := range map[string]string{"[[]: ": "ErrDeep", "[[] x: ": "ErrSyntax", "[[]\n: ": "ErrSyntax", "[{}: b]": "ErrDeep", "[{},": "ErrSyntax", "[{}, a: b]": "[ { } { :a :b } ] @0:10", "[[a:": "ErrDeep", "[[?": "ErrDeep", "[{?": "ErrSyntax", "[a: [": "ErrDeep", "[? [": "ErrDeep"} {
		if got := read(all(s), 0, 0, -1, api.MaxDepth-2); got != want {
			t.Errorf("P1301, P1303: %q in MaxDepth - 2: %s, not %s", s, got, want)
		}
	}
	long := strings.Repeat("k", api.MaxKey)
	for s, want := range map[string]string{"[" + long + ": a]": "ErrDeep", "[" + long + "k: a]": "ErrSyntax", "[['" + long + "']: a]": "ErrDeep"} {
		if got := read(all(s), 0, 0, -1, api.MaxDepth-1); got != want {
			t.Errorf("P1301, P1303: a long key in MaxDepth - 1: %s, not %s", got, want)
		}
	}
}

// TestTwoErrors: P1303: the first error that is met is told.
func TestTwoErrors(t *testing.T) {
	for s, want := range map[string]string{
		"&a\nb &c &d": "ErrIndent", "&a &b\nc": "ErrSyntax", "&a\n&b": "ErrIndent", " &a\n &b\nc": "ErrSyntax", "!t\n*a": "ErrIndent", "!t\n *a": "ErrSyntax", "!<\na": "ErrSyntax", "*\na": "ErrSyntax",
		"[a,,\nb]": "ErrSyntax", "[a,\nb,,]": "ErrIndent", "[a\nb,,]": "ErrIndent", "[\"\\z\"\n]": "ErrSyntax", "[\"\\ud800\"\n]": "ErrChar", "[\"\\z\", \"\\ud800\"]": "ErrSyntax", "[\"\\ud800\", \"\\z\"]": "ErrChar", "[\"\\ud800\",,]": "ErrChar", "[,\"\\ud800\"]": "ErrSyntax", "\"\\z\\ud800\"": "ErrSyntax", "\"\\ud800\\z\"": "ErrChar",
		"\"\\ud800": "ErrSyntax", "\"\\ud800\n": "ErrSyntax", "\"\\ud800\na\"": "ErrIndent", "\"\\z\n a\nb\"": "ErrIndent", "\"\\ud800\n a\"": "ErrChar", "'a\nb": "ErrIndent", "'a\n b": "ErrSyntax", "'a\n b\nc": "ErrIndent", "['a\nb',,]": "ErrIndent", "[,'a\nb']": "ErrSyntax",
		"[a\n---\nb]": "ErrSyntax", "[a,\n...\n]": "ErrSyntax", "[\n---": "ErrSyntax", "&a\n---": "&a : @0:2", "&a\n...\nb": "&a : @0:2", "[a,\n b\nc]": "ErrIndent", "[a,\n b}\nc]": "ErrSyntax", "{a:\nb}": "ErrIndent", "{: \nb}": "ErrSyntax", "{a: b: \nc}": "ErrSyntax", "{a: 'b'\nc}": "ErrIndent", "[?\n]": "ErrIndent", "[? a\n,,]": "ErrIndent", "[a: \n,,]": "ErrIndent", "[a:,,\n]": "ErrSyntax", "[[[\n": "ErrSyntax", "[[[\n]": "ErrIndent", "[&a\n]": "ErrIndent", "[&a,\n]": "ErrIndent", "[a\n#\n]": "ErrIndent", "[a}\n]": "ErrSyntax",
	} {
		check(t, s, 0, want)
	}
}

// TestPlaces: P1301: line and column below 0, at a line's end, behind it, behind the last line.
func TestPlaces(t *testing.T) {
	l := all("x\n  [a]  # c\n\n   'b'\n--- d\n e")
	for i, x := range []struct {
		line, column int
		want         string
	}{
		{0, 0, ":x @0:1"}, {0, 1, "[ :a ] @1:5"}, {0, 2, "[ :a ] @1:5"}, {0, 99, "[ :a ] @1:5"}, {1, 0, "[ :a ] @1:5"}, {1, 1, "[ :a ] @1:5"}, {1, 2, "[ :a ] @1:5"}, {1, 3, ":a @1:4"}, {1, 4, "ErrSyntax"}, {1, 5, "'b @3:6"}, {1, 6, "'b @3:6"}, {1, 7, "'b @3:6"}, {1, 8, ":c/'b' @3:6"}, {1, 9, ":c/'b' @3:6"}, {1, 10, "'b @3:6"}, {1, 11, "'b @3:6"},
		{2, 0, "'b @3:6"}, {2, 5, "'b @3:6"}, {3, 0, "'b @3:6"}, {3, 4, ":b' @3:6"}, {3, 5, "ErrSyntax"}, {3, 6, "ErrSyntax"}, {3, 7, "ErrSyntax"}, {4, 0, ":---_d_e @5:2"}, {4, 3, ":d_e @5:2"}, {4, 5, ":e @5:2"}, {4, 99, ":e @5:2"}, {5, 0, ":e @5:2"}, {5, 1, ":e @5:2"}, {5, 2, "ErrSyntax"}, {5, 3, "ErrSyntax"},
		{6, 0, "ErrSyntax"}, {7, 0, "ErrSyntax"}, {-1, 0, "ErrSyntax"}, {-6, 0, "ErrSyntax"}, {0, -1, "ErrSyntax"}, {1, -1, "ErrSyntax"}, {2, -1, "ErrSyntax"}, {-1, -1, "ErrSyntax"}, {6, -1, "ErrSyntax"},
	} {
		if got := read(l, x.line, x.column, -1, 0); got != x.want {
			t.Errorf("P1301: %d: at %d, %d: %s, not %s", i, x.line, x.column, got, x.want)
		}
	}
	for _, number := range far() {
		want := "ErrSyntax"
		if got := read(l, number, 0, -1, 0); got != want {
			t.Errorf("P1301: at line %d: %s", number, got)
		}
		if number > 0 {
			want = "[ :a ] @1:5"
		}
		if got := read(l, 0, number, -1, 0); got != want {
			t.Errorf("P1301: at column %d: %s, not %s", number, got, want)
		}
		if keyAt(all("a: b"), number, 0) != -1 || keyAt(all("a: b"), 0, number) != -1 {
			t.Errorf("P1302: at %d", number)
		}
	}
}

// TestKey: P1302: each kind of key.
func TestKey(t *testing.T) {
	for s, want := range map[string]int{
		"a: b": 1, "a:": 1, "a :": 2, "a\t:\tb": 2, "a  \t : b": 5, "a:b": -1, "a:b: c": 3, "a b: c": 3, "a: b: c": 1, "a::": 2, "a:: b": 2, "a": -1, "a b": -1, "": -1, "-a: b": 2, "?a: b": 2, ":a: b": 2, "- a: b": -1, "? a: b": -1, ": a": -1, ":": -1, "-: a": 1, "::": 1, ":: a": 1, "a, b: c": 4, "a]: b": 2, "a[: b": 2, "a{}: b": 3, "a:,": -1, "a:]": -1, "a:, b: c": 5, "a'b\": c": 4, "a # b: c": -1, "a #: b": -1, "a#: b": 2, "a: #": 1, "é😀: b": 2, "--- a: b": 5, "---: b": 3, "a\\: b": 2, "#a: b": -1, "# a: b": -1, "%a: b": -1, "@a: b": -1, "`a: b": -1, "|: b": -1, ">: b": -1, ",: b": -1, "]: b": -1, "}: b": -1,
		"'a': b": 3, "'a':": 3, "'a' : b": 4, "'a'\t:": 4, "'a':b": -1, "'a'b: c": -1, "'a' b: c": -1, "'a'": -1, "'a: b": -1, "'a''b': c": 6, "'a: b': c": 6, "'': a": 2, "\"a\": b": 3, "\"a\" :": 4, "\"a\":b": -1, "\"\\\"\": a": 4, "\"a: b\": c": 6, "\"a": -1, "\"\\z\": a": -1, "\"\\ud800\": a": -1, "\"\\x41\": a": 6, "'a' # b: c": -1,
		"*a : b": 3, "*a :": 3, "*a": -1, "*a:": -1, "*a: b": -1, "*a:b : c": 5, "*a b: c": -1, "* a: b": -1, "* : a": -1, "*: a": -1, "*a\t: b": 3, "*a,: b": -1, "*a , b: c": -1, "*a[]: b": -1,
		"[]: a": 2, "[] : a": 3, "[]:": 2, "[]:a": -1, "[a]: b": 3, "[a, b]: c": 6, "[a: b]: c": 6, "[a:b]: c": 5, "[? a]: b": 5, "[a: b": -1, "[a]": -1, "[a] b: c": -1, "[a,,b]: c": -1, "[,]: a": -1, "[a}: b": -1, "[#]: a": -1, "[a #]: b": -1, "{}: a": 2, "{a}: b": 3, "{a: b}: c": 6, "{'a':b} : c": 8, "{a: b": -1, "{: a}: b": -1, "[[], {}]: a": 8, "[]]: a": -1, "[][]: a": -1, "[\"\\z\"]: a": -1,
		"&a b: c": 4, "!t b: c": 4, "&a !t b: c": 7, "!t &a b: c": 7, "&a 'b': c": 6, "&a 'b' : c": 7, "&a \"b\":c": -1, "!t [b]: c": 6, "!t {b}:": 6, "&a{}: b": 4, "!t[]: b": 4, "&a *b : c": -1, "!t *b : c": -1, "&a &b c: d": -1, "!t !u c: d": -1, "!<u> b: c": 6, "!<u: b": -1, "& a: b": -1, "!! a: b": -1, "&a  b c : d": 8, "&a - b: c": -1, "&a -b: c": 5, "&a ? b: c": -1, "&a # b: c": -1, "&a, b: c": -1, "&a ,: c": -1,
		"&a : c": 3, "&a :": 3, "&a\t:": 3, "&a  : b": 4, "!t : c": 3, "! : c": 2, "&a !t : c": 6, "!t &a :": 6, "&a: c": -1, "&a:": -1, "!t:": -1, "!t: c": -1, "!!s: c": -1, "&a :c": -1, "&a :b: c": 5, "&a": -1, "&a ": -1, "&a !t": -1, "&a !<u>: b": -1, "!<u>: b": -1, "!<u> : b": 5, "&a: b: c": 5,
		" a: b": -1, "  a: b": -1, "\ta: b": -1, " 'a': b": -1, " &a : b": -1, " ": -1,
		"a\n: b": -1, "'a\n': b": -1, "[\n]: b": -1, "&a\nb: c": -1, "&a\n: c": -1, "a\nb: c": -1, "\na: b": -1, "#\na: b": -1, "a: b\nc": 1, "a:\nc": 1, "[a]: \nc]": 3, "'a':\n'": 3,
	} {
		checkKey(t, s, want)
	}
}

// TestKeyPlaces: P1302: each place of lines with keys.
func TestKeyPlaces(t *testing.T) {
	l := all("x\n  a: b: c\n\n 'd' :\n [e: f]: g")
	want := map[[2]int]int{{1, 2}: 3, {1, 5}: 6, {3, 1}: 5, {3, 2}: 5, {4, 1}: 7, {4, 2}: 3, {4, 5}: 7}
	// Within a quote and behind it, and within brackets, a plain text may begin, and end with the same sign.
	for line := -1; line < 6; line++ {
		for column := -1; column < 12; column++ {
			told, right := want[[2]int{line, column}]
			if !right {
				told = -1
			}
			if got := keyAt(l, line, column); got != told {
				t.Errorf("P1302: at %d, %d: %d, not %d", line, column, got, told)
			}
		}
	}
	if got := keyAt(all("   - a: b"), 0, 5); got != 6 {
		t.Errorf("P1302: behind an entry's sign: %d", got)
	}
}

// TestKeySize: P1302: MaxKey code points from the place up to the : and one more, of each kind of key.
func TestKeySize(t *testing.T) {
	for _, x := range [][2]string{{"", ""}, {"'", "'"}, {"\"", "\""}, {"[", "]"}, {"{", "}"}, {"*", " "}, {"&", " "}, {"!", "\t "}, {"&a !t ", ""}, {"&a '", "' "}, {"", " \t "}, {"[[], ", ": c]"}} {
		for size := api.MaxKey - 2; size < api.MaxKey+3; size++ {
			key := x[0] + strings.Repeat("k", size-len(x[0])-len(x[1])) + x[1]
			for _, ahead := range []string{"", "   ", "- ", "\t\t"} {
				want := len(ahead) + size
				if size > api.MaxKey {
					want = -1
				}
				for _, behind := range []string{":", ": v", ":\t"} {
					if got := keyAt(all(ahead+key+behind), 0, len(ahead)); got != want {
						t.Errorf("P1302: %q with %d behind %q: %d, not %d", x, size, ahead, got, want)
					}
				}
			}
		}
	}
}

// TestKeyDeep: P1302: a key stands in no collection: MaxDepth of them may stand in it, and no more.
func TestKeyDeep(t *testing.T) {
	for depth := 198; depth < 203; depth++ {
		want := -1
		if depth <= api.MaxDepth {
			want = 2 * depth
		}
		checkKey(t, strings.Repeat("[", depth)+strings.Repeat("]", depth)+": a", want)
		checkKey(t, strings.Repeat("{", depth)+strings.Repeat("}", depth)+":", want)
	}
}

// TestBehindSigns: P1301, P1302: each code point behind a : and a ?, and ahead of a #.
func TestBehindSigns(t *testing.T) {
	for c := -3; c < 70000; c++ {
		if c == ':' { // a sign of value itself
			continue
		}
		safe := chars.Print(c) && c != 9 && c != 32 && c != 10 && c != 13 && c != 65279 && !chars.Flow(c)
		for _, around := range []string{"{a:%}", "[?%]", "[a, ?%]", "[a:%]"} {
			begin, end, _ := strings.Cut(around, "%")
			l := []api.Line{{Text: slices.Concat(points(begin), []int{c}, points(end))}}
			list, _, _, e := New(l).Node(0, 0, -1, 0)
			want := string(append([]rune(strings.TrimLeft(begin, "[{a, ")), rune(c)))
			whole := e == api.OK && slices.ContainsFunc(list, func(x api.Event) bool { return strings.HasSuffix(x.Text, want) })
			if whole != safe {
				t.Errorf("P1301: %q with %d there: %v, %v", around, c, list, e)
			}
		}
		for _, key := range []string{"a", "'a'", "[a]", "&a "} {
			_, right := New([]api.Line{{Text: append(points(key+":"), c)}}).Key(0, 0)
			if right != chars.Blank(c) {
				t.Errorf("P1302: %q, : and %d behind it: %v", key, c, right)
			}
		}
		if c == '#' { // a remark of its own, at the line's beginning
			continue
		}
		l := []api.Line{{Text: []int{c, '#'}}, {Text: points("b")}}
		if got := read(l, 0, 1, -1, 0); got == ":b @1:1" != chars.Blank(c) {
			t.Errorf("P1301: # with %d ahead of it: %s", c, got)
		}
	}
}

// TestNumbers: P1301: what is no code point stands in texts as 65533.
func TestNumbers(t *testing.T) {
	for _, c := range append(far(), -1, -32, 55296, 57343, 1114112) {
		for s, want := range map[string]string{"a%b": ":a\ufffdb @0:3", "'%'": "'\ufffd @0:3", "\"%a\"": "\"\ufffda @0:4", "[a%, '%': b]": "[ :a\ufffd { '\ufffd :b } ] @0:12"} {
			l := all(s)
			for at, x := range l[0].Text {
				if x == '%' {
					l[0].Text[at] = c
				}
			}
			if got := read(l, 0, 0, -1, 0); got != want {
				t.Errorf("P1301: %q with %d: %q, not %q", s, c, got, want)
			}
		}
		for _, s := range []string{"%", "&%", "*%", "!%", "&a%", "*a%", "!t%", "[%]", "{%: a}", "-%", "[?%]", "[]%"} {
			l := all(s)
			for at, x := range l[0].Text {
				if x == '%' {
					l[0].Text[at] = c
				}
			}
			want := "ErrSyntax"
			if s == "[]%" {
				want = "[ ] @0:2"
			}
			if got := read(l, 0, 0, -1, 0); got != want {
				t.Errorf("P1301: %q with %d: %q", s, c, got)
			}
			if got := keyAt(l, 0, 0); got != -1 {
				t.Errorf("P1302: %q with %d: %d", s, c, got)
			}
		}
	}
}

// TestDeepTexts: P1301: no text is too deep for a call, where deep lets it be.
func TestDeepTexts(t *testing.T) {
	const count = 1 << 16
	for _, x := range []struct {
		begin, end string
		events     int
	}{{"[", "]", 2}, {"{", "}", 3}, {"{a: ", "}", 3}, {"[? ", "]", 5}, {"[a: ", "]", 5}, {"[a, ", ",]", 3}, {"{? ", ": a}", 3}, {"[\n", "\n]", 2}, {"[", ":a]", 5}} {
		s := strings.Repeat(x.begin, count) + "[]" + strings.Repeat(x.end, count)
		l := all(s)
		list, _, _, e := New(l).Node(0, 0, -1, math.MinInt)
		want := count*x.events + 2
		if x.begin == "[" && x.end == ":a]" { // the outer ones stand behind more than MaxKey
			if e != api.ErrSyntax {
				t.Errorf("P1301: %v deep: %v", x, e)
			}
			continue
		}
		row := slices.Concat([]api.Event{{Kind: api.EDoc}}, list, []api.Event{{Kind: api.EDone}})
		if e != api.OK || len(list) != want || !events.Right(row) {
			t.Errorf("P1301: %v deep: %d, %v, not %d", x, len(list), e, want)
		}
		if _, _, _, e := New(l).Node(0, 0, -1, 0); e != api.ErrDeep {
			t.Errorf("P1301: %v deep: %v", x, e)
		}
		if at := keyAt(l, 0, 0); at != -1 {
			t.Errorf("P1302: %v deep: %d", x, at)
		}
		if _, _, _, e := New(all(s[:len(s)/2])).Node(0, 0, -1, math.MinInt); e != api.ErrSyntax {
			t.Errorf("P1301: %v deep, never closed: %v", x, e)
		}
	}
}

// TestLong: P1301: no text is too long: what is read is not gone through again and again.
func TestLong(t *testing.T) {
	const count = 1 << 16
	for _, x := range []struct {
		begin, each, end string
		events           int
	}{
		{"[", "a,", "]", 1}, {"[", "[],", "]", 2}, {"[", "a: b,", "]", 4}, {"[", "? a,", "]", 4}, {"{", "a: b,", "}", 2}, {"{", "'a':b\n,", "}", 2}, {"[", "\n\n\n'a\n\n',", "]", 1}, {"[", "a\n\nb\n\n,", "]", 1}, {"[", "&a\n\n,", "]", 1}, {"[", " # c\n*a ,", "]", 1}, {"{", "? : ,", "}", 2}, {"[", "!<u> \"\\n\",", "]", 1},
		{"'", "a\n", "'", 0}, {"\"", "\\n\\\n", "\"", 0}, {"", "a b\n", "", 0}, {"a", "\n\n", "b", 0}, {"a", "\n", ",", 0}, {"&a ", " #\n", "b", 0}, {"&", "a", "", 0}, {"*", "b", "", 0}, {"!", "t", " a", 0}, {"  ", "  ", "a", 0}, {"[", " ", "]", 0}, {"[a:", "\t", "]", 0},
	} {
		list, _, _, e := New(all(x.begin+strings.Repeat(x.each, count)+x.end)).Node(0, 0, -1, 0)
		if want := count*x.events + 2; e != api.OK || x.events > 0 && len(list) != want {
			t.Errorf("P1301: long %v: %d, %v, not %d", x, len(list), e, want)
		}
	}
}

// TestNilAndEmpty: P1303: nil and an empty list mean the same, in each place.
func TestNilAndEmpty(t *testing.T) {
	for _, none := range [][]api.Line{nil, {}, make([]api.Line, 0, 4), all("a: b")[:0], all("a: b")[1:]} {
		for line := -1; line < 3; line++ {
			for column := -1; column < 3; column++ {
				if got := read(none, line, column, -1, 0); got != "ErrSyntax" {
					t.Errorf("P1303: no lines at %d, %d: %s", line, column, got)
				}
				if got := keyAt(none, line, column); got != -1 {
					t.Errorf("P1303: no lines at %d, %d: %d", line, column, got)
				}
				if got := Rest(none, line, column); len(got) > 0 {
					t.Errorf("P1303: no lines at %d, %d: %v", line, column, got)
				}
			}
		}
	}
	for _, nothing := range [][]int{nil, {}, points("a: b")[:0], points("a: b")[4:]} {
		l := []api.Line{{Text: nothing}, {Indent: 3, Text: nothing}, {Indent: 1, Text: points("'a")}, {Text: nothing}, {Indent: 2, Text: points("b': c")}, {Indent: 5, Text: nothing}}
		for line := range 3 {
			if got := read(l, line, 0, 0, 0); got != "'a/b @4:4" {
				t.Errorf("P1303: empty Texts at %d: %s", line, got)
			}
		}
		if got := read(l, 5, 5, 0, 0); got != "ErrSyntax" {
			t.Errorf("P1303: an empty Text: %s", got)
		}
		if keyAt(l, 0, 0) != -1 || keyAt(l, 1, 3) != -1 || len(Rest(l, 0, 0)) != 0 || !slices.Equal(Rest(l, 1, 1), points("  ")) {
			t.Errorf("P1303: empty Texts")
		}
	}
	if list, line, column, e := new(Reader).Node(0, 0, 0, 0); len(list) != 0 || line != 0 || column != 0 || e != api.ErrSyntax {
		t.Errorf("P1303: a reader of nothing: %v, %d, %d, %v", list, line, column, e)
	}
}

// texts are texts of each kind, right and wrong, on which the promises of memory are tried.
func texts() []string {
	return []string{"a", "a b\n c\n\n d", "'it''s\n x'", "\"\\n\\\n y\"", "&a !t b: c", "*a : b", "[a, b: c, ? d : e, [f]: g, {}]", "{a: b, 'c':d, ? [e]: f, &g : !h}", "!<u> [\n  a,\n  b # c\n ]: d", "[a,,]", "{: a}", "\"\\ud800\"", "[a\n]", "'a", "", "# c", "  [ [ [ ] ] ]", "[[[]: a]: b]"}
}

// tell is what a reader tells of some places.
func tell(r *Reader) string {
	var b strings.Builder
	for line := -1; line < 5; line++ {
		for column := range 8 {
			list, toLine, toColumn, e := r.Node(line, column, column%3-1, column)
			at, right := r.Key(line, column)
			b.WriteString(show(list, toLine, toColumn) + nameOf(e) + strconv.Itoa(at) + strconv.FormatBool(right) + "\n")
		}
	}
	return b.String()
}

// TestTwice: P1303: the same call tells the same, whatever one reader, or another one, was asked between.
func TestTwice(t *testing.T) {
	for _, s := range texts() {
		one := New(all(s))
		want := tell(one)
		for _, x := range texts() {
			tell(New(all(x)))
			if again := tell(one); again != want {
				t.Fatalf("P1303: %q: %s, then %s", s, want, again)
			}
		}
		if fresh := tell(New(all(s))); fresh != want {
			t.Errorf("P1303: %q: %s, of another one %s", s, want, fresh)
		}
		alone, _, _, _ := New(all(s)).Node(0, 0, -1, 0)
		again, _, _, _ := one.Node(0, 0, -1, 0)
		if !slices.Equal(alone, again) {
			t.Errorf("P1303: %q: %v, not %v", s, again, alone)
		}
	}
}

// TestBeside: P1303: many ask one reader at the same time, and each is told the same as one alone.
func TestBeside(t *testing.T) {
	for _, s := range texts() {
		r := New(all(s))
		want := tell(New(all(s)))
		done := make(chan string)
		for range 6 {
			go func() { done <- tell(r) }()
		}
		for range 6 {
			if got := <-done; got != want {
				t.Errorf("P1303: %q side by side: %s, not %s", s, got, want)
			}
		}
	}
}

// roomy makes lines of s with room around each list, which is filled with x.
func roomy(s string, x int) (whole []api.Line, l []api.Line) {
	more := api.Line{Indent: x, Text: []int{x, x}}
	whole = append(whole, more)
	for _, line := range all(s) {
		room := append(append([]int{x, x}, line.Text...), x, x, x)
		whole = append(whole, api.Line{Indent: line.Indent, Text: room[2 : 2+len(line.Text)]})
	}
	whole = append(whole, more, more)
	return whole, whole[1 : len(whole)-2]
}

// copied is a copy of lines with all the room behind their Texts.
func copied(l []api.Line) []api.Line {
	l = slices.Clone(l[:cap(l)])
	for at := range l {
		l[at].Text = slices.Clone(l[at].Text[:cap(l[at].Text)])
	}
	return l
}

// sameLines tells whether two lists of lines are the same.
func sameLines(a, b []api.Line) bool {
	return slices.EqualFunc(a, b, func(x, y api.Line) bool { return x.Indent == y.Indent && slices.Equal(x.Text, y.Text) })
}

// TestUnchanged: P1303: what is handed in stays as it is, the room around it too, and that room is not looked at.
func TestUnchanged(t *testing.T) {
	for _, s := range texts() {
		want := tell(New(all(s)))
		for _, x := range []int{0, 'a', ']', '\'', '"', ':', ' ', ',', '\\', '#', 9, -1} {
			whole, l := roomy(s, x)
			before := copied(whole)
			r := New(l)
			if got := tell(r); got != want {
				t.Errorf("P1303: %q within more of %d: %s, not %s", s, x, got, want)
			}
			for line := range len(l) {
				rest := Rest(l, line, 0)
				if !slices.Equal(rest, slices.Concat(slices.Repeat([]int{32}, l[line].Indent), l[line].Text)) {
					t.Errorf("P1303: Rest of %q within more of %d: %v", s, x, rest)
				}
				for at := range rest[:cap(rest)] {
					rest[:cap(rest)][at] = -7
				}
			}
			if !sameLines(copied(whole), before) {
				t.Fatalf("P1303: %q within more of %d was changed: %v", s, x, whole)
			}
		}
	}
}

// TestNotKept: P1303: a reader reads what it was made of, whatever becomes of that.
func TestNotKept(t *testing.T) {
	for _, s := range texts() {
		l := all(s)
		want := tell(New(l))
		r := New(l)
		for at := range l {
			for i := range l[at].Text {
				l[at].Text[i] = '['
			}
			l[at].Text = append(l[at].Text, 'x')
			l[at].Indent = 4
		}
		if got := tell(r); got != want {
			t.Errorf("P1303: %q, changed behind the reader's back: %s, not %s", s, got, want)
		}
		clear(l)
		if got := tell(r); got != want {
			t.Errorf("P1303: %q, cleared behind the reader's back: %s, not %s", s, got, want)
		}
	}
}

// TestFresh: P1303: what is answered is new memory, each time.
func TestFresh(t *testing.T) {
	for _, s := range texts() {
		r := New(all(s))
		want := tell(r)
		first, _, _, _ := r.Node(0, 0, -1, 0)
		second, _, _, _ := r.Node(0, 0, -1, 0)
		kept := slices.Clone(second)
		for at := range first[:cap(first)] {
			first[:cap(first)][at] = api.Event{Kind: 99, Text: "x"}
		}
		if !slices.Equal(second, kept) || tell(r) != want {
			t.Errorf("P1303: %q: what one call answered is in what another one does", s)
		}
	}
	l := all("  ab\nc")
	for line := range l {
		for column := range 5 {
			for range 2 {
				rest := Rest(l, line, column)
				for at := range rest[:cap(rest)] {
					rest[:cap(rest)][at] = -1
				}
				rest = append(rest, -1)
			}
		}
	}
	if !sameLines(l, all("  ab\nc")) {
		t.Errorf("P1303: Rest handed out what it was given: %v", l)
	}
}

// TestRight: P1301: what Node tells is a node: between a document's events it is Right.
func TestRight(t *testing.T) {
	for _, s := range texts() {
		list, line, column, e := New(all(s)).Node(0, 0, -1, 0)
		row := slices.Concat([]api.Event{{Kind: api.EDoc}}, list, []api.Event{{Kind: api.EDone}})
		if e == api.OK && (!events.Right(row) || len(Rest(all(s), line, column)) > len(all(s)[line].Text)) || e != api.OK && list != nil {
			t.Errorf("P1301: %q: %s", s, show(list, line, column))
		}
	}
}
