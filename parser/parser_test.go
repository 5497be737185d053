package parser

import (
	"strconv"
	"strings"
	"testing"

	"marginalia/api"
)

// points tells the code points of s.
func points(s string) []int {
	var l []int
	for _, c := range s {
		l = append(l, int(c))
	}
	return l
}

// all makes lines of s, parted at each 10: the blanks ahead count.
func all(s string) []api.Line {
	var l []api.Line
	for _, x := range strings.Split(s, "\n") {
		text := strings.TrimLeft(x, " ")
		l = append(l, api.Line{Indent: len(x) - len(text), Text: points(text)})
	}
	return l
}

// textOf is the text of lines, for telling them.
func textOf(l []api.Line) string {
	var b strings.Builder
	for _, x := range l {
		b.WriteString(strings.Repeat(" ", min(max(x.Indent, 0), 300)))
		for _, c := range x.Text {
			b.WriteRune(rune(c))
		}
		b.WriteString("\n")
	}
	return b.String()
}

// nameOf is an error's name.
func nameOf(e api.Errno) string {
	names := map[api.Errno]string{api.ErrArg: "ErrArg", api.ErrSyntax: "ErrSyntax", api.ErrChar: "ErrChar", api.ErrTab: "ErrTab", api.ErrIndent: "ErrIndent", api.ErrDeep: "ErrDeep"}
	if name := names[e]; name != "" {
		return name
	}
	return "Err" + strconv.Itoa(int(e))
}

// show writes events, and the line behind them: [ ] and { } with Flag, ( ) and < > without it, *name, scalars as :plain 'single "double |literal >folded with _ for a blank, / for a 10, ~ for a 9, and ahead of them &anchor and !tag.
func show(l []api.Event, line int) string {
	var b strings.Builder
	var open []string
	for _, x := range l {
		if x.Anchor != "" && x.Kind != api.EAlias {
			b.WriteString("&" + x.Anchor + " ")
		}
		if x.Tag != "" {
			b.WriteString("!" + x.Tag + " ")
		}
		sign := signOf(x)
		if at := strings.Index("[{(<", sign); at >= 0 {
			open = append(open, "]})>"[at:at+1])
		}
		if sign == "end" && len(open) > 0 {
			sign = open[len(open)-1]
			open = open[:len(open)-1]
			if (x.Kind == api.ESeqEnd) != (sign == "]" || sign == ")") {
				sign = "?"
			}
		}
		b.WriteString(sign + " ")
	}
	return b.String() + "@" + strconv.Itoa(line)
}

// signOf writes one event without its properties: what its kind does not name stands behind a ?.
func signOf(x api.Event) string {
	bare := api.Event{Kind: x.Kind, Tag: x.Tag, Anchor: x.Anchor, Flag: x.Flag}
	switch {
	case x == api.Event{Kind: api.EAlias, Anchor: x.Anchor}:
		return "*" + x.Anchor
	case x.Kind == api.EScalar && x.Style > 0 && x.Style <= 5 && !x.Flag:
		return ":'\"|>"[x.Style-1:x.Style] + strings.NewReplacer(" ", "_", "\n", "/", "\t", "~").Replace(x.Text)
	case x == bare && x.Kind == api.ESeq:
		return map[bool]string{true: "[", false: "("}[x.Flag]
	case x == bare && x.Kind == api.EMap:
		return map[bool]string{true: "{", false: "<"}[x.Flag]
	case x == api.Event{Kind: api.ESeqEnd} || x == api.Event{Kind: api.EMapEnd}:
		return "end"
	}
	return "?" + strconv.Itoa(x.Kind)
}

// read is what Node tells of these lines.
func read(l []api.Line, line, column int) string {
	list, behind, e := Node(l, line, column)
	if e == api.OK {
		return show(list, behind)
	}
	if len(list) > 0 || behind != 0 {
		return nameOf(e) + " beside " + show(list, behind)
	}
	return nameOf(e)
}

// check: P1401: what Node tells from the beginning of a text on. (Where want tells no line: all lines are taken.)
func check(t *testing.T, s, want string) {
	t.Helper()
	l := all(s)
	if !strings.HasPrefix(want, "Err") && !strings.Contains(want, " @") {
		want += " @" + strconv.Itoa(len(l))
	}
	if got := read(l, 0, 0); got != want {
		t.Errorf("P1401: %q: %s, not %s", s, got, want)
	}
}

// checkAll: P1401: check each of these texts.
func checkAll(t *testing.T, wants map[string]string) {
	t.Helper()
	for s, want := range wants {
		check(t, s, want)
	}
}

// checkWrong: P1401: that error of each of these texts.
func checkWrong(t *testing.T, want string, texts ...string) {
	t.Helper()
	for _, s := range texts {
		check(t, s, want)
	}
}

// TestSigns: P1401: entries, questions and values, with nothing, a Blank and another sign behind them.
func TestSigns(t *testing.T) {
	checkAll(t, map[string]string{
		"-": "( : )", "- ": "( : )", "-\t": "( : )", "- a": "( :a )", "-\ta": "( :a )", "-  a": "( :a )", "- \t a": "( :a )", "-a": ":-a", "--": ":--", "-- a": ":--_a", "-:": "< :- : >", "-: a": "< :- :a >", "-'a'": ":-'a'", "-?": ":-?", "-#": ":-#", "-[]": ":-[]", "-\n": "( : )", "-\u0085": ":-\u0085",
		"?": "< : : >", "? ": "< : : >", "?\t": "< : : >", "? a": "< :a : >", "?\ta": "< :a : >", "?a": ":?a", "??": ":??", "?? a": ":??_a", "?: a": "< :? :a >", "?-": ":?-", "?#": ":?#",
		"? a\n:": "< :a : >", "? a\n: ": "< :a : >", "? a\n:\t": "< :a : >", "? a\n: b": "< :a :b >", "? a\n:\tb": "< :a :b >", "? a\n:b": "ErrSyntax", "? a\n::": "< :a : :: : >", "? a\n:b:": "< :a : ::b : >",
		":a": "::a", "::": "< :: : >", ":: a": "< :: :a >", ":- a": "::-_a",
	})
	checkWrong(t, "ErrSyntax", ":", ": ", ": a", ":\t", "%", "% a", "@", "`", "]", "}", ",", ", a", "]a", "[", "{", "&", "*", "!!", "'", "\"", "#a\n]", "\ufeff", "\x00", "\x7f")
	for c := -3; c < 300; c++ {
		apart := c == ' ' || c == '\t'
		for s, want := range map[string]string{"-": "( : ) @1", "?": "< : : > @1", "a:": "< :a : > @1"} {
			got := read([]api.Line{{Text: append(points(s), c)}}, 0, 0)
			if (got == want) != apart {
				t.Errorf("P1401: %q with %d behind it: %s", s, c, got)
			}
		}
		got := read([]api.Line{{Text: points("? a")}, {Text: append(points(":"), c)}}, 0, 0)
		if (got == "< :a : > @2") != apart {
			t.Errorf("P1401: a value with %d behind it: %s", c, got)
		}
	}
}

// TestNextLine: P1401: past Blanks, a comment and Bare lines to the next one.
func TestNextLine(t *testing.T) {
	for s, want := range map[string]string{"-%\n- b": "( : :b )", "- 'a'%\n- b": "( 'a :b )", "- a%\n- b": "( :a :b )", "- []%\n- b": "( [ ] :b )", "- &x%\n- b": "( &x : :b )", "- *x%\n- b": "( *x :b )", "a:%\nb:": "< :a : :b : >", "a: 'b'%\nc: d": "< :a 'b :c :d >", "a:%\n b": "< :a :b >", "a:%\n- b": "< :a ( :b ) >", "?%\n: b": "< : :b >", "? 'a'%\n: b": "< 'a :b >", "? a\n:%\nb: c": "< :a : :b :c >", "&x%\na: b": "&x < :a :b >", "'a'%": "'a", "a%": ":a", "&x%\n...": "&x : @%"} {
		for gap, count := range map[string]int{"": 0, " ": 0, "\t": 0, " \t ": 0, " #": 0, " # c": 0, "\t#c - d: [": 0, "  # c # d": 0, "\n": 1, "\n\n  \n\t": 3, "\n#": 1, "\n# c": 1, " # c\n    # d\n\t# e\n": 3, "\n\t\t\n \t#": 2} {
			check(t, strings.ReplaceAll(s, "%", gap), strings.ReplaceAll(want, "@%", "@"+strconv.Itoa(count+1)))
		}
		for _, gap := range []string{" %", " ]", "\t}", " ,", " 'b'", " \"b\""} {
			text := strings.ReplaceAll(s, "%", gap)
			if strings.HasPrefix(s, "a%") || strings.HasPrefix(s, "- a%") {
				continue // a plain text goes on with these
			}
			if strings.Contains(gap, "b") && !strings.Contains(s, "'") && !strings.Contains(s, "[]") && !strings.Contains(s, "*") {
				continue // it is a node itself
			}
			check(t, text, "ErrSyntax")
		}
	}
	checkWrong(t, "ErrSyntax", "'a'#", "'a'#c", "\"a\"#c", "[]#c", "{}#c", "- 'a'#c\n- b", "a: 'b'#c", "a: [b]#c\nd: e", "? 'a'#c\n: b", "'a' b", "[] []", "[]a", "*a b", "- 'a' - b", "'a' 'b'", "a: 'b' c: d", "{a: b} c")
	checkAll(t, map[string]string{"a#b": ":a#b", "- a#b": "( :a#b )", "&a#b c": "&a#b :c", "*a#b": "*a#b", "|\n# a": "|#_a/", "a: b#c # d": "< :a :b#c >"})
}

// TestTab: P1401: a Text that begins with a 9 is ErrTab where the next line is looked for, and nowhere else.
func TestTab(t *testing.T) {
	checkWrong(t, "ErrTab", "\n\ta", "#\n\ta", "a:\n\tb", "a:\n \tb", "a:\n  \t b", "a:\n\t- b", "-\n\ta", "-\n\t- a", "- 'a'\n\t- b", "- a\n\t- b", "- a\n\tb", "a: b\n\tc: d", "a: 'b'\n\tc", "? a\n\t: b", "?\n\ta", "? a\n:\n\tb", "&x\n\ta", "&x\n\t&y", "'a'\n\tb", "[]\n \tb", "[a]\n\t]", "a: |\n  b\n\tc: d", "a:\n- b\n\tc: d", "a: &x\n\tb", "\n\t\t%", "a:\n\n#\n\tb", "- - a\n\t- b", "*a\n\tb", "a:\n \t'b'", "&x\n \t|", "a:\n\t\u0085")
	checkAll(t, map[string]string{
		"\ta": ":a", " \ta": ":a", "\t": ":", "\t#": ":", "\t'a'": "'a", "\t- a": "( :a )", "\ta: b": "< :a :b >", "\t- a\n - b": "( :a :b )", "\t\ta: b\n  c: d": "< :a :b :c :d >", "a\n\tb": ":a_b", "a: b\n \tc": "< :a :b_c >", "a\n\t": ":a", "a:\n\t#\n\t\n b": "< :a :b >", "a: 'b\n \tc'": "< :a 'b_c >", "[a,\n\tb]": "[ :a :b ]", "a: [b,\n \tc]": "< :a [ :b :c ] >", "|\n\ta": "|~a/", "a: |\n \tb": "< :a |~b/ >", "-\t-\ta\n  - b": "( ( :a :b ) )", "?\ta:\tb": "< < :a :b > : >", "&x\ta": "&x :a", "a\t: b": "< :a :b >", "- a\n- \tb": "( :a :b )",
	})
}

// TestWhere: P1401: a node on its line and on a new one: nothing there, a comment there, Indents below n, n, above it, with an entry and without one.
func TestWhere(t *testing.T) {
	checkAll(t, map[string]string{
		"a": ":a", "  a": ":a", "\na": ":a", "\n  a": ":a", "# c\n\n# d\n a": ":a", "": ":", " ": ":", "\n": ":", "#": ":", "  # c\n\t\n": ":", "\n\n- a": "( :a )", " # c\n a: b": "< :a :b >", "#c\n  |\n  a": "|a/", " #\n ? a\n : b": "< :a :b >",
		"a:\n b": "< :a :b >", "a:\n   b": "< :a :b >", "a:\nb:": "< :a : :b : >", " a:\nb:": "ErrSyntax", "  a:\n b:": "ErrIndent", " a:\n b: c": "< :a : :b :c >", "a: #\n\n# c\n b": "< :a :b >",
		"a:\n- b": "< :a ( :b ) >", "a:\n - b": "< :a ( :b ) >", "a:\n-": "< :a ( : ) >", " a:\n - b\n - c\n d: e": "< :a ( :b :c ) :d :e >", " a:\n- b": "ErrSyntax", "  a:\n - b": "ErrIndent", "a:\n-b": "ErrSyntax", "a:\n-b: c": "< :a : :-b :c >", "a:\nb": "ErrSyntax", "a:\n'b'": "ErrSyntax", "a:\n? b": "< :a : :b : >", "a:\n[]": "ErrSyntax", "a:\n|\n b": "ErrSyntax", "a:\n&x b": "ErrSyntax", "a:\n&x b: c": "< :a : &x :b :c >", "a:\n*b : c": "< :a : *b :c >",
		"-\n a": "( :a )", "-\na": "ErrSyntax", "-\n- a": "( : :a )", "-\n - a": "( ( :a ) )", " -\n- a": "ErrSyntax", "-\n a: b": "( < :a :b > )", "-\n ? a\n : b": "( < :a :b > )", "-\n a:\n - b": "( < :a ( :b ) > )",
		"?\n a": "< :a : >", "?\na: b": "< : : :a :b >", "?\n- a": "ErrSyntax", "?\n - a\n: b": "< ( :a ) :b >", "? a\n:\n- b": "ErrSyntax", "? a\n:\n - b": "< :a ( :b ) >", "? a\n: - b\n  - c": "< :a ( :b :c ) >", "?\n: a": "< : :a >", "?\n\n# c\n: a": "< : :a >",
		"a: &x\n- b\n- c\nd: e": "< :a &x ( :b :c ) :d :e >", "a: !t\n  &x\n- b": "< :a &x !!t ( :b ) >", "a: &x\nb: c": "< :a &x : :b :c >", "a: &x\nb": "ErrSyntax", "- &x\n- a": "( &x : :a )", "- &x\na": "ErrSyntax",
	})
}

// TestLead: P1401: a collection begins on its line with lead alone: that of an entry, of a question, of its value and of a document's first column.
func TestLead(t *testing.T) {
	for _, x := range [][2]string{{"- a", "( :a )"}, {"-", "( : )"}, {"? a", "< :a : >"}, {"?", "< : : >"}, {"a: b", "< :a :b >"}, {"a:", "< :a : >"}, {"'a': b", "< 'a :b >"}, {"[a]: b", "< [ :a ] :b >"}, {"{}: b", "< { } :b >"}, {"*a : b", "< *a :b >"}, {"&x a: b", "< &x :a :b >"}, {"&x : b", "< &x : :b >"}, {"!t \"a\" : b", "< !!t \"a :b >"}} {
		s, want := x[0], x[1]
		check(t, s, want)
		check(t, "- "+s, "( "+want+" )")
		check(t, "? "+s, "< "+want+" : >")
		check(t, "? k\n: "+s, "< :k "+want+" >")
		check(t, "k:\n "+s, "< :k "+want+" >")
		check(t, "k: !u\n  &v\n "+s, "< :k &v !!u "+want+" >")
		check(t, "!u # c\n"+s, "!!u "+want)
		checkWrong(t, "ErrSyntax", "k: "+s, "k:\t"+s, "- k: "+s, "? k: "+s, "'k': "+s, "? j\n: k: "+s)
		for _, column := range []int{3, 4} {
			l := all("--- " + s)
			if got := read(l, 0, column); got != "ErrSyntax" {
				t.Errorf("P1401: %q at %d: %s", s, column, got)
			}
		}
		l := all("---\n" + s)
		if got := read(l, 0, 3); got != want+" @2" {
			t.Errorf("P1401: %q behind ---: %s", s, got)
		}
		l = all("--- !u\n" + s)
		if got := read(l, 0, 3); got != "!!u "+want+" @2" {
			t.Errorf("P1401: %q behind --- and a tag: %s", s, got)
		}
		l = all("  " + s)
		if got := read(l, 0, 1) + read(l, 0, 2); got != "ErrSyntaxErrSyntax" {
			t.Errorf("P1401: %q in its Indent: %s", s, got)
		}
	}
	checkWrong(t, "ErrSyntax", "&x - a", "&x ? a", "&x -", "&x ?", "!t - a", "- &x - a", "a: &x - b", "a: &x b: c", "a: !t ? b", "a:\n  &x - b", "&x\n!t - a", "&x - a: b", "- &x ? a")
}

// TestProperties: P1401: on the line and ahead of a line's end, of each kind of node.
func TestProperties(t *testing.T) {
	checkAll(t, map[string]string{
		"&x a": "&x :a", "!t a": "!!t :a", "&x !t a": "&x !!t :a", "!t &x a": "&x !!t :a", "! a": "!! :a", "!!s a": "!!!s :a", "!h!s a": "!!h!s :a", "!<u> a": "!<u :a", "&x\ta": "&x :a", "&x  !t\t 'a'": "&x !!t 'a", "&é a": "&é :a",
		"&x\na": "&x :a", "&x\n!t\na": "&x !!t :a", "!t\n&x\na": "&x !!t :a", "&x !t\na": "&x !!t :a", "!t &x # c\n\n# d\n  a": "&x !!t :a", "&x # c\n!t # d\n'a'": "&x !!t 'a", "&x\n\n\n  !t a": "&x !!t :a", "&x # a": "&x :", "!t\n&x": "&x !!t :",
		"&x": "&x :", "!t": "!!t :", "!": "!! :", "&x !t": "&x !!t :", "&x\n": "&x :", "&x #": "&x :", "- &x": "( &x : )", "- &x\n- !t\n- &x !t": "( &x : !!t : &x !!t : )", "a: &x": "< :a &x : >", "? &x\n: !t": "< &x : !!t : >", "? &x": "< &x : : >", "-\n &x\n- a": "( &x : :a )", "a:\n &x\nb: c": "< :a &x : :b :c >", "a:\n &x\n !t\nb: c": "< :a &x !!t : :b :c >",
		"&x\n- a": "&x ( :a )", "&x\na: b": "&x < :a :b >", "&x\n? a": "&x < :a : >", "&x !t\n- a": "&x !!t ( :a )", "!t\n&x\na: b": "&x !!t < :a :b >", "- &x\n  - a": "( &x ( :a ) )", "- &x\n  a: b": "( &x < :a :b > )", "a: &x\n  - b": "< :a &x ( :b ) >", "a: &x\n  b: c": "< :a &x < :b :c > >", "a: &x\n  !t\n  b: c": "< :a &x !!t < :b :c > >", "a:\n  &x\n  b: c": "< :a &x < :b :c > >", "a: &x\n- b": "< :a &x ( :b ) >", "a:\n  &x\n- b": "< :a &x ( :b ) >", "? &x\n  - a\n: !t\n  b: c": "< &x ( :a ) !!t < :b :c > >",
		"&x a: b": "< &x :a :b >", "&x !t a: b": "< &x !!t :a :b >", "&x : b": "< &x : :b >", "! : b": "< !! : :b >", "&x [a]: b": "< &x [ :a ] :b >", "&x {}: b": "< &x { } :b >", "!t 'a' : b": "< !!t 'a :b >", "&x\n&y a: b": "&x < &y :a :b >", "!t\n!u a: b": "!!t < !!u :a :b >", "&x\n*a : b": "&x < *a :b >", "&x !t\n&y !u a: b": "&x !!t < &y !!u :a :b >", "&x\n!t\n&y a: b": "&x !!t < &y :a :b >", "- &x\n  &y a: b": "( &x < &y :a :b > )", "- &x a: b\n  &y c: d": "( < &x :a :b &y :c :d > )",
		"&x []": "&x [ ]", "&x[]": "&x [ ]", "!t{}": "!!t { }", "&x {a: b}": "&x { :a :b }", "&x \"a\"": "&x \"a", "&x |\n a": "&x |a/", "!t >\n a": "!!t >a/", "&x\n|\n a": "&x |a/", "- &x\n  |\n  a": "( &x |a/ )", "a: &x !t >-\n b": "< :a &x !!t >b >", "&x [&y a, !t b]": "&x [ &y :a !!t :b ]",
	})
	checkWrong(t, "ErrSyntax", "&x &y a", "!t !u a", "&x &y", "!t !t", "&x !t &y a", "&x\n&y", "&x\n&y a", "&x\n!t\n&y a", "!t\n!u 'a'", "&x !t\n!u", "&x\n&y []", "- &x\n  &y a", "a: &x\n  &y b", "a: &x\n  &y\n  b: c", "a: &x\n  !t &y\n- b", "&x\n&y |\n a", "&x\n&y\na: b", "&x\n!t !u a", "&x\n!t\n!u\n- a",
		"&x *a", "!t *a", "&x\n*a", "- &x *a", "a: !t\n *b", "&x !t\n*a", "a: &x *b\nc: d",
		"&", "& a", "&\n", "!!", "!! a", "!<a", "!<>", "!t%", "!té a", "&x,", "&x, a", "&x]", "&x }", "!t,", "!<u>a", "!<u>'a'", "&x\x00", "&x %", "&x @a", "&x `a", "&x ]", "&x , a", "- &x ]", "a: & b", "a: !!\n b", "&x\n&", "&x #\n! ]")
}

// TestWholeLines: P1401: behind | and >: within n, each error of the head and of the lines, and what stands behind them.
func TestWholeLines(t *testing.T) {
	checkAll(t, map[string]string{
		"|": "|", ">": ">", "|\na": "|a/", ">\na\nb": ">a_b/", "|\n a\n  b": "|a/_b/", "|-\na": "|a", "|+\na\n\n": "|a///", ">-\na": ">a", ">+\na\n": ">a//", "|1\n  a": "|_a/", "|2-\n   a": "|_a", ">-1\n  a": ">_a", "| # c\na": "|a/", "|\t\na": "|a/", "|- # c\n# a": "|#_a", "  |\na": "|a/", "\n|\na": "|a/", "|\n\n\n": "|", "|+\n\n": "|//",
		"- |\n a": "( |a/ )", "- |\n a\n- b": "( |a/ :b )", "- |\na": "ErrSyntax", "- |\n- a": "( | :a )", "- |1\n  a": "( |_a/ )", " - |1\n   a": "( |_a/ )", " - |1\n  a": "( |a/ )", " - |1\n a": "ErrSyntax", " - |2\n  a": "ErrIndent", "- - |\n   a\n  - b": "( ( |a/ :b ) )", "- - |\n  a": "ErrSyntax", "- - |1\n    a": "( ( |_a/ ) )", "- >\n  a\n  b\n\n  c\n- d": "( >a_b/c/ :d )", "-\n |\n a": "( |a/ )", "-\n  |\n a": "( |a/ )",
		"a: |\n b": "< :a |b/ >", "a: |\n b\nc: d": "< :a |b/ :c :d >", "a: |\nb: c": "< :a | :b :c >", "a: |-\n b\n\n\nc: d": "< :a |b :c :d >", "a: |+\n b\n\n\nc: d": "< :a |b/// :c :d >", "a: >1\n  b": "< :a >_b/ >", " a: >1\n   b": "< :a >_b/ >", "a:\n b: |\n  c\n d: e": "< :a < :b |c/ :d :e > >", "a:\n  b: |\n  c: d": "< :a < :b | :c :d > >", "a:\n- |\n b\nc: d": "< :a ( |b/ ) :c :d >", "a:\n |\n b": "< :a |b/ >", "? |\n a\n: >\n b": "< |a/ >b/ >", "? a\n: |\n b\nc: d": "< :a |b/ :c :d >",
		"a: |\n b\n# c\nd: e": "< :a |b/ :d :e >", "a: |\n  b\n # c\nd: e": "< :a |b/ :d :e >", "- |\n  a\n # b\n- c": "( |a/ :c )", "|\n a\n# b": "|a/", "- |\n  a\n\n # c\n": "( |a/ )", "|\n a\n...": "|a/ @2", "|\n---": "| @1", "- |\n a\n--- b": "( |a/ ) @2", "|\n \n  \n---": "| @3", "|\n  ---\n a": "ErrIndent", "|\n  a\n b": "ErrIndent", "a: |\n  b\n c": "ErrIndent", "a: |\n  b\n c: d": "ErrIndent", "a: |\n  b\nc": "ErrSyntax", "|\n a\nb": "ErrSyntax",
		"|\n  \n a": "ErrIndent", "a: >\n   \n  b": "ErrIndent", "- |\n    \n\n  b": "ErrIndent", "|1\n    \n a": "|___/a/", "a: |\n    \nb: c": "< :a | :b :c >", "a: |\n  \tb": "< :a |~b/ >", "|\n\t": "|~/", "a: |\n\tb": "ErrTab",
	})
	checkWrong(t, "ErrSyntax", "|a", "| a", ">x", "|0", "|12", "|--", "|+-", "|-+", "|1-1", "|#", "|-#c", "|1#", ">\ta", "| |", "||", "|>", "- |a", "a: >x\n b", "? | b", "&x |y", "a: | b: c", "|-x\n  \n a", "> 1", "|: a")
	checkAll(t, map[string]string{"'|'": "'|", "a|b": ":a|b", "a >b": ":a_>b", "- a |\n  b": "( :a_|_b )"})
}

// TestInFlow: P1401: quoted texts, brackets, braces and aliases, on one line and on several.
func TestInFlow(t *testing.T) {
	checkAll(t, map[string]string{
		"'a'": "'a", "\"a\"": "\"a", "'a\nb'": "'a_b", "'a\n\n  b' # c": "'a/b", "\"a\\\n  b\"": "\"ab", "[a, b]": "[ :a :b ]", "[a,\nb\n]": "[ :a :b ]", "{a: b}": "{ :a :b }", "{a:\nb\n,}": "{ :a :b }", "{a\nb: c}": "{ :a_b :c }", "[a, [b: c], {d}]": "[ :a [ { :b :c } ] { :d : } ]", "*a": "*a", "*a # c": "*a", "[]  ": "[ ]", "{}\t#": "{ }", "['a':b]": "[ { 'a :b } ]", "\n 'a'": "'a",
		"- 'a\n b'\n- c": "( 'a_b :c )", "- [a,\n b]": "( [ :a :b ] )", "- {a: b,\n c: d}\n- e": "( { :a :b :c :d } :e )", "- *a\n- *b": "( *a *b )", "a: 'b\n c'": "< :a 'b_c >", "a: [\n ]": "< :a [ ] >", "a: {\n b\n }\nc: d": "< :a { :b : } :c :d >", "a: *b\nc: *d": "< :a *b :c *d >", "a:\n 'b'": "< :a 'b >", "a:\n [b,\n c]": "< :a [ :b :c ] >", "? 'a\n b'\n: [c,\n d]": "< 'a_b [ :c :d ] >", "- - 'a\n   b'": "( ( 'a_b ) )", "? [a]": "< [ :a ] : >", "'a\n# b'": "'a_#_b", "[a, # b\nc]": "[ :a :c ]", "- [a\n\n#\n , b]": "( [ :a :b ] )", "a: 'b\n\nc'": "ErrIndent",
	})
	checkWrong(t, "ErrIndent", "- 'a\nb'", "- [a,\nb]", "- {a:\nb}", "a: 'b\nc'", "a: \"b\n\nc\"", "a: [b\n]", "a: {b: c\n}", "- - 'a\n  b'", "- a: 'b\n  c'", "? 'a\nb'", "? a\n: [\n]", "a:\n- 'b\nc'", "a:\n- [\n]", " a: [\n ]")
	checkWrong(t, "ErrSyntax", "'a", "\"a", "[a", "{a", "[a,,b]", "{: a}", "[a: b: c]", "[a\nb: c]", "'a\n---\n'", "[a,\n...\n]", "- 'a\n---\n'", "a: \"\\z\"", "*", "* a", "*a]", "*a,", "*a[]", "[]]", "{}}", "'a''", "'a'b", "\"a\"\"b\"", "[a] b", "{a} {b}", "{}:a", "'a':b", "a: [] b", "- 'a' b\n- c", "'a' :b", "'a' :b: c", "*a: b", "[a]:\tb: c", "'a\nb': c", "[a,\nb]: c", "- 'a\n b': c", "{a:\n b}: c")
	checkWrong(t, "ErrChar", "\"\\ud800\"", "- \"\\ud800\"", "a: \"\\ud800\"", "\"\\ud800\": a", "[\"\\ud800\"]", "a: [\"\\ud800\"]: b", "a:\n  \"b\n  \\ud800\"")
}

// TestPlain: P1401: plain texts are those without flow, but in brackets and braces.
func TestPlain(t *testing.T) {
	checkAll(t, map[string]string{
		"a": ":a", "a b": ":a_b", "a, b": ":a,_b", "a]": ":a]", "a [b] {c}, d": ":a_[b]_{c},_d", "a:b": ":a:b", "a:,b": ":a:,b", "a:[b]": ":a:[b]", "-,": ":-,", "?]": ":?]", ":{": "::{", "-[a]": ":-[a]", "- a, b]": "( :a,_b] )", "a: b, c": "< :a :b,_c >", "a,b: c": "< :a,b :c >", "a]: }": "ErrSyntax", "a]: b}": "< :a] :b} >", "[a, b]c": "ErrSyntax", "[a:b,c]": "[ :a:b :c ]", "a: -,": "< :a :-, >", "[-,]": "ErrSyntax", "a # b": ":a", "a #b: c": ":a", "a# b": ":a#_b", "a 'b'": ":a_'b'", "a &b *c !d": ":a_&b_*c_!d", "a |": ":a_|",
		"a\nb": ":a_b", "a\n\nb": ":a/b", "a\n  b  \n\tc": ":a_b_c", "a\n- b": ":a_-_b", "a\n? b": ":a_?_b", "a\n[b]": ":a_[b]", "a\n'b'": ":a_'b'", "a\n&b": ":a_&b", "a\n|": ":a_|", "a\nb # c": ":a_b", "a # b\n": ":a", "a\n# b": ":a", "a\n-": ":a_-", "a\n%b": ":a_%b", "a\n@": ":a_@", "a\n:b": ":a_:b", "a\n- b\n- c": ":a_-_b_-_c", "a\nb:c": ":a_b:c", "a\nb, c]": ":a_b,_c]",
		"- a\n b": "( :a_b )", "- a\n b\n- c": "( :a_b :c )", "- a\n - b": "( :a_-_b )", "- a\n\n\n  b\n\n- c": "( :a//b :c )", "a: b\n c": "< :a :b_c >", "a: b\n c\nd: e": "< :a :b_c :d :e >", "a:\n b\n c\n  d": "< :a :b_c_d >", "a: b\n - c": "< :a :b_-_c >", "? a\n b\n: c\n d": "< :a_b :c_d >", "- - a\n   b": "( ( :a_b ) )", "&x a\nb": "&x :a_b", "&x\na\nb": "&x :a_b", "a:\n  b\n c": "< :a :b_c >", "a:\n- b\n c\n- d\ne: f": "< :a ( :b_c :d ) :e :f >",
	})
	// A further line that ends by a : may not be; one that does not belong to the text is looked at for itself.
	checkWrong(t, "ErrSyntax", "a\nb:", "a\nb: c", "a\nb :", "a\nb : c", "a\n  b: c", "a\n\nb:", "a\nb\nc: d", "a\n- b: c", "a\nb c: d", "a\n'b': c", "a\n? b: c", "a\n[b]: c", "a\nb::", "- a\n b: c", "a: b\n c: d", "a: b\n c:", "a:\n b\n c: d", "? a\n b: c", "&x\na\nb: c", "&x a\nb: c", "- - a\n   b: c", "a\nb:\tc", "a\n*b : c", "- a\n  b: c\n- d",
		"a\n: b", "a\n:", "a\n# c\nb", "a # c\nb", "- a\n# c\n- b\nc", "a: b # c\nd")
	checkWrong(t, "ErrIndent", "a\n : b", "- a\n : b", "- a\n  :", "a: b\n : c", "a # c\n b", "- a # c\n  b", "a: b\n# c\n d", "? a\n : b", "- - a # c\n   b", "a: b #\n  c: d")
	long := strings.Repeat("k", api.MaxKey)
	checkAll(t, map[string]string{long + ": a": "< :" + long + " :a >", long + "k: a": "ErrSyntax", "'" + long[2:] + "': a": "< '" + long[2:] + " :a >", "'" + long + "': a": "ErrSyntax", "- " + long + ": a": "( < :" + long + " :a > )", "? " + long + "k": "< :" + long + "k : >", long + "k:a": ":" + long + "k:a", "a: b\n" + long + " : c": "ErrSyntax"})
}

// TestSequence: P1401: entries, and what ends them.
func TestSequence(t *testing.T) {
	checkAll(t, map[string]string{
		"- a": "( :a )", "- a\n- b\n- c": "( :a :b :c )", "-\n-\n-": "( : : : )", "- a\n\n\n- b\n# c\n- d": "( :a :b :d )", "  - a\n  - b": "( :a :b )",
		"- - a": "( ( :a ) )", "- - - a\n    - b\n  - c\n- d": "( ( ( :a :b ) :c ) :d )", "- - a\n- b": "( ( :a ) :b )", "-\n  - a\n  - b\n-\n  - c": "( ( :a :b ) ( :c ) )", "-   - a\n    - b\n- c": "( ( :a :b ) :c )", "- -\n  -\n-": "( ( : : ) : )", "- -": "( ( : ) )", "-\n -\n  -\n- a": "( ( ( : ) ) :a )", "- - -\n-": "( ( ( : ) ) : )",
		"- a\n...": "( :a ) @1", "- a\n---\n- b": "( :a ) @1", "- - a\n\n# c\n--- #": "( ( :a ) ) @3", "-\n---": "( : ) @1",
		"- a\nb": "ErrSyntax", "- a\n-b": "ErrSyntax", "- a\nb: c": "ErrSyntax", "- a\n? b": "ErrSyntax", "- a\n'b'": "ErrSyntax", "- a\n--": "ErrSyntax", "- - a\n  b": "ErrSyntax", "- - a\n  b: c": "ErrSyntax", "a:\n  - b\n  c: d": "ErrSyntax", "a:\n - b\n c": "ErrSyntax", "-\na": "ErrSyntax", "- a\n]": "ErrSyntax",
		"- 'a'\n - b": "ErrIndent", "- 'a'\n  b": "ErrIndent", "- []\n - b": "ErrIndent", "- - 'a'\n   - b": "ErrIndent", "- - a\n - b": "ErrIndent", "-  - a\n - b": "ErrIndent", "-\n  - a\n - b": "ErrIndent", "- |\n  a\n - b": "ErrIndent", " - a\n- b": "ErrSyntax", "  - a\n - b": "ErrIndent", "- *a\n  - b": "ErrIndent", "- a #\n - b": "ErrIndent",
		// at its key's own column
		"a:\n- b\n- c": "< :a ( :b :c ) >", "a:\n- b\nc: d": "< :a ( :b ) :c :d >", "a:\n- b\n? c\n: d": "< :a ( :b ) :c :d >", "a:\n-\n-\nb:\n-": "< :a ( : : ) :b ( : ) >", "a:\n- b\nc": "ErrSyntax", "a:\n- b\n-c": "ErrSyntax", "a:\n- b\n-c: d": "< :a ( :b ) :-c :d >", "a:\n- 'b'\n c": "ErrIndent", "a:\n- 'b'\n - c": "ErrIndent", "a:\n- 'b'\n'c'": "ErrSyntax", "a:\n- b\n: c": "ErrSyntax", "a:\n- b\n...": "< :a ( :b ) > @2", "a:\n- - b\n  - c\n- d": "< :a ( ( :b :c ) :d ) >", "a:\n- b:\n  - c\n  d:\n  - e\nf:": "< :a ( < :b ( :c ) :d ( :e ) > ) :f : >", "- a:\n  - b\n- c": "( < :a ( :b ) > :c )", "- a:\n  - b\n  - c\n  d: e": "( < :a ( :b :c ) :d :e > )", "- a:\n  - b\n  c": "ErrSyntax", "- a:\n  - b\n c": "ErrIndent", "  a:\n  - b\n c: d": "ErrIndent", "'a':\n- b": "< 'a ( :b ) >", "[a]:\n- b": "< [ :a ] ( :b ) >", "? a\n: b\nc:\n- d": "< :a :b :c ( :d ) >", "a: # c\n\n# d\n- b": "< :a ( :b ) >", "a:\n- |\n b\n- c": "< :a ( |b/ :c ) >", "? - a\n- b": "ErrSyntax", "a:\n- b\n\n# c\n\nd:\n- e": "< :a ( :b ) :d ( :e ) >", "a:\n - b\n- c": "ErrSyntax", "a:\n - b\nc:\n- d": "< :a ( :b ) :c ( :d ) >",
	})
}

// TestMapping: P1401: pairs with a question and with a key, and what ends them.
func TestMapping(t *testing.T) {
	checkAll(t, map[string]string{
		"a: b": "< :a :b >", "a: b\nc: d\ne: f": "< :a :b :c :d :e :f >", "a:\nb:\nc:": "< :a : :b : :c : >", "a: b\n\n# c\n\nd: e": "< :a :b :d :e >", "  a: b\n  c: d": "< :a :b :c :d >", "a:\n b:\n  c: d\n e: f\ng: h": "< :a < :b < :c :d > :e :f > :g :h >", "a: b\na: b": "< :a :b :a :b >",
		"'a': b": "< 'a :b >", "\"a\" : b": "< \"a :b >", "[a, {b: c}]: d": "< [ :a { :b :c } ] :d >", "{a}: b\n[]: c": "< { :a : } :b [ ] :c >", "*a : b": "< *a :b >", "&x : b": "< &x : :b >", "a b c : d": "< :a_b_c :d >", "-a: b": "< :-a :b >", "?a: b": "< :?a :b >", ":a: b": "< ::a :b >", "a#b: c": "< :a#b :c >", "a::b: c": "< :a::b :c >", "a::: b": "< :a:: :b >", "é: 😀": "< :é :😀 >", "a:\t b": "< :a :b >", "--- a: b": "< :---_a :b >", "...: a": "< :... :a >",
		"? a\n: b": "< :a :b >", "? a": "< :a : >", "?\n:": "< : : >", "? a\n? b\n: c\n? d": "< :a : :b :c :d : >", "? a\nb: c": "< :a : :b :c >", "a: b\n? c\n: d\ne: f": "< :a :b :c :d :e :f >", "? a: b\n  c: d\n: e: f\n  g: h": "< < :a :b :c :d > < :e :f :g :h > >", "? - a\n  - b\n: - c\n  - d": "< ( :a :b ) ( :c :d ) >", "? ? a\n  : b\n: c": "< < :a :b > :c >", "? ? a\n: b": "< < :a : > :b >", "? ? a\n  b: c": "< < :a : :b :c > : >", "? a\n\n# c\n:   b": "< :a :b >", "? |\n a\n: |\n b": "< |a/ |b/ >", "? [a,\n b]\n: {c:\n d}": "< [ :a :b ] { :c :d } >", "?\n  a: b\n:\n  c: d": "< < :a :b > < :c :d > >", "- ? a\n  : b\n- ? c": "( < :a :b > < :c : > )", "? a\n:\nb: c": "< :a : :b :c >", "? &x a\n: *x": "< &x :a *x >", "? a\n...": "< :a : > @1", "? a\n---": "< :a : > @1", "? a\n: b\n...": "< :a :b > @2", "a: b\n--- c": "< :a :b > @1",
		"? a\n : b": "ErrIndent", " ? a\n: b": "ErrSyntax", "  ? a\n : b": "ErrIndent", "- ? a\n : b": "ErrIndent", "- ? a\n: b": "ErrSyntax", "? 'a'\n b": "ErrIndent", "? a\nb": "ErrSyntax", "? a\n- b": "ErrSyntax", "? a\n: b\n: c": "ErrSyntax", "a: b\n: c": "ErrSyntax", "? a\n: b\n : c": "ErrIndent", "? a\n: 'b'\n c: d": "ErrIndent", "?\n: a\n:": "ErrSyntax", "a:\n: b": "ErrSyntax", "? a\n:b": "ErrSyntax",
		"a: b\nc": "ErrSyntax", "a: b\n- c": "ErrSyntax", "a: b\n'c'": "ErrSyntax", "a: b\n[c]": "ErrSyntax", "a: b\n]": "ErrSyntax", "a: b\nc:d": "ErrSyntax", "a: b\n&x": "ErrSyntax", "a: b\n*c": "ErrSyntax", "a: b\n|": "ErrSyntax", "a: b\n'c\n d': e": "ErrSyntax", "a: b\n[c,\n d]: e": "ErrSyntax", "a:\n b: c\n d": "ErrSyntax", "a:\n b: c\n- d": "ErrSyntax", "a: b\n&x\nc: d": "ErrSyntax", "a: b\n%c: d": "ErrSyntax",
		"a: 'b'\n c: d": "ErrIndent", "a:\n b: c\n  d: e": "ErrSyntax", "a:\n b: 'c'\n  d: e": "ErrIndent", "a:\n  b: c\n d: e": "ErrIndent", "- a: b\n c: d": "ErrIndent", "- a: 'b'\n   c: d": "ErrIndent", "a: []\n  b: c": "ErrIndent", "a: *b\n c: d": "ErrIndent", "  a: b\n c: d": "ErrIndent", "  a: b\nc: d": "ErrSyntax", "a: |\n  b\n c: d": "ErrIndent", "- - a: b\n   c: d": "ErrIndent", "- a: b\nc: d": "ErrSyntax",
		"- a: b\n  c:\n    d: e\n  f: g\n- h: i": "( < :a :b :c < :d :e > :f :g > < :h :i > )", "a:\n  - b: c\n    d: e\n  - f\ng: h": "< :a ( < :b :c :d :e > :f ) :g :h >", "- - a: b\n    c: d\n  - e: f": "( ( < :a :b :c :d > < :e :f > ) )", "a:\n - - b: c\n     d: e": "< :a ( ( < :b :c :d :e > ) ) >", "? - a: b\n    c: d\n: - e": "< ( < :a :b :c :d > ) ( :e ) >",
	})
	check(t, "a: 1\nb:\n- c", "< :a :1 :b ( :c ) >")
}
