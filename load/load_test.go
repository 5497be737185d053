package load

import (
	"math"
	"slices"
	"strconv"
	"strings"
	"testing"

	"marginalia/api"
	"marginalia/events"
	"marginalia/graph"
)

const y = "tag:yaml.org,2002:"

// wide are limits that nothing small passes.
func wide() api.Limits { return api.Limits{Bytes: 1 << 20, Depth: 200, Nodes: 20000} }

// short is s as it is told in a test's error.
func short(s string) string {
	if len(s) <= 300 {
		return strconv.Quote(s)
	}
	return strconv.Quote(s[:120]) + ".." + strconv.Quote(s[len(s)-60:]) + " (" + strconv.Itoa(len(s)) + ")"
}

// nameOf is an error's name.
func nameOf(e api.Errno) string {
	names := map[api.Errno]string{api.OK: "OK", api.ErrArg: "ErrArg", api.ErrSyntax: "ErrSyntax", api.ErrLong: "ErrLong", api.ErrChar: "ErrChar", api.ErrTab: "ErrTab", api.ErrIndent: "ErrIndent", api.ErrDeep: "ErrDeep", api.ErrMany: "ErrMany", api.ErrAlias: "ErrAlias", api.ErrTag: "ErrTag", api.ErrTwice: "ErrTwice", api.ErrValue: "ErrValue"}
	if name := names[e]; name != "" {
		return name
	}
	return "Err" + strconv.Itoa(int(e))
}

// numbers writes a list of them.
func numbers(list []int) string {
	var words []string
	for _, x := range list {
		words = append(words, strconv.Itoa(x))
	}
	return strings.Join(words, " ")
}

// show writes a graph: its roots, and behind each | a node: its tag (!!name of YAML's own), then :text of a plain scalar, 'text of another one (/ for a 10), [Kids] or {Kids}.
func show(g api.Graph) string {
	told := []string{numbers(g.Roots)}
	for _, x := range g.Nodes {
		tag := "<" + x.Tag + ">"
		if name, ours := strings.CutPrefix(x.Tag, y); ours {
			tag = "!!" + name
		}
		text := strings.ReplaceAll(x.Text, "\n", "/")
		switch {
		case x.Kind == api.NScalar && x.Plain && len(x.Kids) == 0:
			told = append(told, tag+":"+text)
		case x.Kind == api.NScalar && len(x.Kids) == 0:
			told = append(told, tag+"'"+text)
		case x.Kind == api.NSeq && !x.Plain && text == "":
			told = append(told, tag+"["+numbers(x.Kids)+"]")
		case x.Kind == api.NMap && !x.Plain && text == "":
			told = append(told, tag+"{"+numbers(x.Kids)+"}")
		default:
			told = append(told, "?"+strconv.Itoa(x.Kind))
		}
	}
	return strings.Join(told, "|")
}

// made is what Load tells of a text: a graph, or an error's name.
func made(text string, l api.Limits, by int) string {
	g, e := Load([]byte(text), l, by)
	switch {
	case e == api.OK && !graph.Right(g):
		return "not Right: " + show(g)
	case e == api.OK:
		return show(g)
	case len(g.Nodes) > 0 || len(g.Roots) > 0:
		return nameOf(e) + " beside " + show(g)
	}
	return nameOf(e)
}

// loads: P2101: what Load tells of a text by Core, within wide limits.
func loads(t *testing.T, text, want string) {
	t.Helper()
	if got := made(text, wide(), api.Core); got != want {
		t.Errorf("P2101: %s: %s, not %s", short(text), short(got), short(want))
	}
}

// row is what Events tells of a text: one letter for each event's kind (D d documents, S s sequences, M m mappings, . scalars, * aliases), or an error's name.
func row(text string) string {
	list, e := Events([]byte(text))
	if e != api.OK && len(list) > 0 {
		return nameOf(e) + " beside events"
	}
	if e != api.OK {
		return nameOf(e)
	}
	if !events.Right(list) {
		return "not Right"
	}
	var b strings.Builder
	for _, x := range list {
		b.WriteByte("?DdSsMm.*"[x.Kind])
	}
	return b.String()
}

// TestEvents: P2101: the events of a text, and the first error.
func TestEvents(t *testing.T) {
	for text, want := range map[string]string{
		"": "", "# c\n": "", "\n\n": "", "...\n": "", "\ufeff": "",
		"a": "D.d", "---": "D.d", "- a\n": "DS.sd", "a: 1": "DM..md", "&a [*a]": "DS*sd", "[a, {b: c}]": "DS.M..msd",
		"a\n---\nb": "D.dD.d", "---\n---\n...\n": "D.dD.d", "--- a\n...\n%YAML 1.2\n--- {}\n": "D.dDMmd",
		"\xff": "ErrChar", "a\xc3": "ErrChar", "\xed\xa0\x80": "ErrChar", "\xff\xfea": "ErrChar", "\xfe\xff\xd8\x00\x00a": "ErrChar", "\x00\x00\xfe\xff\x00\x11\x00\x00": "ErrChar",
		"\x07": "ErrChar", "a\ufeff": "ErrChar", "\x00": "ErrChar", "a\x7f": "ErrChar", "\ufffe": "ErrChar",
		"[": "ErrSyntax", "a: b: c": "ErrSyntax", "%YAML 2.0\n---\n": "ErrSyntax", "\ta: b\n c": "ErrSyntax",
		"a:\n\tb": "ErrTab", "'a'\n b": "ErrIndent", "!e!x a": "ErrTag", "'\\": "ErrSyntax", "\"\\ud800\"": "ErrChar",
		strings.Repeat("[", 200) + strings.Repeat("]", 200): "D" + strings.Repeat("S", 200) + strings.Repeat("s", 200) + "d",
		strings.Repeat("[", 201) + strings.Repeat("]", 201): "ErrDeep",
		// what is an error of Load alone
		"*a": "D*d", "{a: 1, a: 1}": "DM....md", "!!int a": "D.d", "[*a, *b]": "DS**sd",
	} {
		if got := row(text); got != want {
			t.Errorf("P2101: Events of %s: %s, not %s", short(text), got, want)
		}
	}
}

// TestEventsFirst: P2101: the bytes' length is looked at first, then what they are, then what they stand for, then the stream.
func TestEventsFirst(t *testing.T) {
	long := strings.Repeat(" ", api.MaxInput)
	for text, want := range map[string]string{
		long: "", long + " ": "ErrLong", long + "\xff": "ErrLong", "[\a\xff" + long: "ErrLong",
		"a\xff" + long[2:]: "ErrChar", "[\a" + long[2:]: "ErrChar", "[" + long[1:]: "ErrSyntax", "[" + long: "ErrLong",
		"]\n\a": "ErrChar", "]\n\xff": "ErrChar", "!e!a b\n--- ]": "ErrTag", "]\n--- !e!a b": "ErrSyntax", "!e!a ]": "ErrSyntax",
	} {
		if got := row(text); got != want {
			t.Errorf("P2101: Events of %s: %s, not %s", short(text), got, want)
		}
	}
}

// TestEventsWhole: P2101: of events all is told, tags whole however long they are.
func TestEventsWhole(t *testing.T) {
	long := strings.Repeat("a", 3000)
	got, e := Events([]byte("%TAG !e! " + long + ":\n--- !e!x\n- &b !!str 'c'\n- ! [*b]\n- |\n  d\n- !<" + long + "> {}\n...\n"))
	want := []api.Event{{Kind: api.EDoc, Flag: true}, {Kind: api.ESeq, Tag: long + ":x"}, {Kind: api.EScalar, Text: "c", Tag: y + "str", Anchor: "b", Style: api.SSingle}, {Kind: api.ESeq, Tag: "!", Flag: true}, {Kind: api.EAlias, Anchor: "b"}, {Kind: api.ESeqEnd}, {Kind: api.EScalar, Text: "d\n", Style: api.SLiteral}, {Kind: api.EMap, Tag: long, Flag: true}, {Kind: api.EMapEnd}, {Kind: api.ESeqEnd}, {Kind: api.EDone, Flag: true}}
	if e != api.OK || !slices.Equal(got, want) {
		t.Errorf("P2101: Events: %v, %v", got, e)
	}
	anchor, e := Events([]byte("- &" + long + " a\n- *" + long))
	if e != api.OK || len(anchor) != 6 || anchor[2].Anchor != long || anchor[3].Anchor != long {
		t.Errorf("P2101: Events of a long anchor: %d, %v", len(anchor), e)
	}
}

// coded is a text in one of the forms of utf.Form, with a mark or without.
func coded(text string, form int, mark bool) string {
	if mark {
		text = "\ufeff" + text
	}
	var b []byte
	for _, c := range text {
		high, low := byte(c>>8), byte(c)
		switch form {
		case 1:
			b = append(b, string(c)...)
		case 2:
			b = append(b, high, low)
		case 3:
			b = append(b, low, high)
		case 4:
			b = append(b, 0, 0, high, low)
		case 5:
			b = append(b, low, high, 0, 0)
		}
	}
	return string(b)
}

// TestForms: P2101: each form of code points is told alike, with a mark and without.
func TestForms(t *testing.T) {
	for form := 1; form <= 5; form++ {
		for _, mark := range []bool{true, false} {
			if got := row(coded("a: [é, €]", form, mark)); got != "DM.S..smd" {
				t.Errorf("P2101: Events, form %d, mark %t: %s", form, mark, got)
			}
			loads(t, coded("a: [é, 1]", form, mark), "0|!!map{1 2}|!!str:a|!!seq[3 4]|!!str:é|!!int:1")
			loads(t, coded("a\a", form, mark), "ErrChar")
			loads(t, coded("[a", form, mark), "ErrSyntax")
		}
	}
	loads(t, "\xfe\xff\x00a\xd8\x3d\xde\x00", "0|!!str:a😀")
	loads(t, "\xff\xfea\x00\x3d\xd8", "ErrChar")
	loads(t, "\ufeff", "")
	loads(t, "\ufeff\ufeff", "ErrChar")
}

// TestLoad: P2101: graphs of texts: the chapter's example, each kind of node, documents, aliases, rounds.
func TestLoad(t *testing.T) {
	for text, want := range map[string]string{
		"a: 1": "0|!!map{1 2}|!!str:a|!!int:1",
		"":     "", "# c": "", "...\n...\n": "", "---": "0|!!null:", "a": "0|!!str:a", "'a'": "0|!!str'a", "\"1\"": "0|!!str'1", "|\n a\n": "0|!!str'a/", ">-\n 1\n": "0|!!str'1",
		"[]": "0|!!seq[]", "{}": "0|!!map{}", "- a\n- [b, 2.5]": "0|!!seq[1 2]|!!str:a|!!seq[3 4]|!!str:b|!!float:2.5",
		"a:\n  b: c\nd: ~":  "0|!!map{1 2 5 6}|!!str:a|!!map{3 4}|!!str:b|!!str:c|!!str:d|!!null:~",
		"? [a]\n: |\n  b\n": "0|!!map{1 3}|!!seq[2]|!!str:a|!!str'b/",
		"a\n---\nb":         "0 1|!!str:a|!!str:b", "--- [1]\n--- {2: 3}\n...\n--- 4": "0 2 5|!!seq[1]|!!int:1|!!map{3 4}|!!int:2|!!int:3|!!int:4",
		"&a [*a]": "0|!!seq[0]", "&a {*a : *a}": "0|!!map{0 0}", "[&a 1, *a, *a]": "0|!!seq[1 1 1]|!!int:1", "&a [&b [*a, *b]]": "0|!!seq[1]|!!seq[0 1]",
		"[&a 1, *a, &a 2, *a]":                          "0|!!seq[1 1 2 2]|!!int:1|!!int:2",
		"--- &a 1\n--- {x: &a 2, *a : 3}":               "0 1|!!int:1|!!map{2 3 3 4}|!!str:x|!!int:2|!!int:3",
		"%TAG !e! tag:x,1:\n--- !e!y {!e!z a: !e!w []}": "0|<tag:x,1:y>{1 2}|<tag:x,1:z>:a|<tag:x,1:w>[]",
	} {
		loads(t, text, want)
	}
}

// TestTags: P2101: each node's tag: its own, that of its kind behind a ! or by default, or what the schema tells of a plain text.
func TestTags(t *testing.T) {
	for text, want := range map[string]string{
		"[null, ~, NULL, '', \"~\"]":                                              "!!null:null|!!null:~|!!null:NULL|!!str'|!!str'~",
		"[true, False, 'true', yes]":                                              "!!bool:true|!!bool:False|!!str'true|!!str:yes",
		"[1, 0x1, 0o7, 007, -3, '1']":                                             "!!int:1|!!int:0x1|!!int:0o7|!!int:007|!!int:-3|!!str'1",
		"[1.5, .inf, -.INF, .nan, 1e3, \"1.5\"]":                                  "!!float:1.5|!!float:.inf|!!float:-.INF|!!float:.nan|!!float:1e3|!!str'1.5",
		"[! 1, ! null, ! 'a', ! a, ! [], ! {}]":                                   "!!str:1|!!str:null|!!str'a|!!str:a|!!seq[]|!!map{}",
		"[!<!> 1, !<!> []]":                                                       "!!str:1|!!seq[]",
		"[!!str 1, !!int '1', !!float 1, !!null '', !!bool \"true\", !!str null]": "!!str:1|!!int'1|!!float:1|!!null'|!!bool'true|!!str:null",
		"[!x 1, !x '1', !<z> a, !x [], !x {}, !!x 1, !!set {}, !!map [], !!seq a, !!int [], !!null {}]": "<!x>:1|<!x>'1|<z>:a|<!x>[]|<!x>{}|!!x:1|!!set{}|!!map[]|!!seq:a|!!int[]|!!null{}",
		"[!!str , !!int 0x10, !x , !, !<x> ]": "!!str:|!!int:0x10|<!x>:|!!str:|<x>:",
	} {
		got := made(text, wide(), api.Core)
		if _, nodes, many := strings.Cut(got, "]|"); many {
			got = nodes
		}
		if got != want {
			t.Errorf("P2101: %s: %s, not %s", text, got, want)
		}
	}
}

// TestSchemas: P2101: one text by each schema, and by numbers that are none.
func TestSchemas(t *testing.T) {
	const text = "[null, ~, true, TRUE, 1, 0x1, 01, 1.5, .inf, 1., '1', ! 1, !x 1, !!int 1]"
	const behind = "|!!str'1|!!str:1|<!x>:1|!!int:1"
	const head = "0|!!seq[1 2 3 4 5 6 7 8 9 10 11 12 13 14]|"
	bare := head + "!!str:null|!!str:~|!!str:true|!!str:TRUE|!!str:1|!!str:0x1|!!str:01|!!str:1.5|!!str:.inf|!!str:1." + behind
	for by, want := range map[int]string{
		api.Core: head + "!!null:null|!!null:~|!!bool:true|!!bool:TRUE|!!int:1|!!int:0x1|!!int:01|!!float:1.5|!!float:.inf|!!float:1." + behind,
		api.JSON: head + "!!null:null|!!str:~|!!bool:true|!!str:TRUE|!!int:1|!!str:0x1|!!str:01|!!float:1.5|!!str:.inf|!!str:1." + behind,
		0:        bare, 3: bare, -1: bare, 1<<32 + 2: bare, math.MinInt: bare, math.MaxInt: bare,
	} {
		if got := made(text, wide(), by); got != want {
			t.Errorf("P2101: schema %d: %s, not %s", by, got, want)
		}
	}
	for by, want := range map[int]string{api.Core: "ErrTwice", api.JSON: "0|!!map{1 2 3 4}|!!int:1|!!null:|!!str:0x1|!!null:", api.Failsafe: "0|!!map{1 2 3 4}|!!str:1|!!str:|!!str:0x1|!!str:"} {
		if got := made("{1: , 0x1: }", wide(), by); got != want {
			t.Errorf("P2101: keys by schema %d: %s, not %s", by, got, want)
		}
	}
}

// TestBytes: P2101: how many bytes there may be, cut to what may be at all; their length is looked at first.
func TestBytes(t *testing.T) {
	great := strings.Repeat(" ", api.MaxInput)
	for _, x := range []struct {
		text  string
		bytes int
		want  string
	}{
		{"", 0, ""}, {"", -1, ""}, {"", math.MinInt, ""}, {"a", 0, "ErrLong"}, {"a", -1, "ErrLong"}, {"a", math.MinInt, "ErrLong"}, {"a", 1, "0|!!str:a"}, {"ab", 1, "ErrLong"}, {"ab", 2, "0|!!str:ab"}, {"ab", math.MaxInt, "0|!!str:ab"},
		{"é", 1, "ErrLong"}, {"é", 2, "0|!!str:é"}, {"\xff\xfea\x00", 3, "ErrLong"}, {"\xff\xfea\x00", 4, "0|!!str:a"}, {"\ufeffa", 3, "ErrLong"}, {"\ufeffa", 4, "0|!!str:a"}, {" # c\n", 4, "ErrLong"}, {" # c\n", 5, ""},
		{great, api.MaxInput, ""}, {great, api.MaxInput - 1, "ErrLong"}, {great, api.MaxInput + 1, ""}, {great, math.MaxInt, ""},
		{great + " ", api.MaxInput, "ErrLong"}, {great + " ", api.MaxInput + 1, "ErrLong"}, {great + " ", math.MaxInt, "ErrLong"},
		{"\xff\xff", 1, "ErrLong"}, {"\xff\xff", 2, "ErrChar"}, {"\a\a", 1, "ErrLong"}, {"\a\a", 2, "ErrChar"}, {"[[", 1, "ErrLong"}, {"[[", 2, "ErrSyntax"}, {"*a", 1, "ErrLong"}, {"*a", 2, "ErrAlias"}, {"!!int a", 6, "ErrLong"}, {"!!int a", 7, "ErrValue"}, {"[]", 1, "ErrLong"},
		{great + "\xff", math.MaxInt, "ErrLong"},
	} {
		if got := made(x.text, api.Limits{Bytes: x.bytes, Depth: 5, Nodes: 5}, api.Core); got != x.want {
			t.Errorf("P2101: %s of at most %d bytes: %s, not %s", short(x.text), x.bytes, got, x.want)
		}
	}
	if got := made("[]", api.Limits{Bytes: 1}, api.Core); got != "ErrLong" {
		t.Errorf("P2101: all limits are passed: %s", got)
	}
}

// TestLimits: P2101: how deep collections may be, and how many nodes there may be: just met, and passed by one.
func TestLimits(t *testing.T) {
	for _, x := range []struct {
		text         string
		depth, nodes int
		want         string
	}{
		{"", 0, 0, ""}, {"", -1, -1, ""}, {"a", 0, 1, "0|!!str:a"}, {"a", -5, 1, "0|!!str:a"}, {"a", 0, 0, "ErrMany"}, {"a", 0, -1, "ErrMany"}, {"a", 0, math.MinInt, "ErrMany"},
		{"[]", 1, 1, "0|!!seq[]"}, {"[]", 0, 1, "ErrDeep"}, {"[]", -1, 1, "ErrDeep"}, {"[]", 1, 0, "ErrMany"}, {"[]", 0, 0, "ErrDeep"},
		{"- {}", 2, 2, "0|!!seq[1]|!!map{}"}, {"- {}", 1, 2, "ErrDeep"}, {"- {}", 2, 1, "ErrMany"}, {"- {}", 1, 1, "ErrDeep"}, {"- {}", 0, 1, "ErrDeep"},
		{"a: b", 1, 3, "0|!!map{1 2}|!!str:a|!!str:b"}, {"a: b", 1, 2, "ErrMany"}, {"a: b", 0, 3, "ErrDeep"}, {"a: b", 0, 2, "ErrDeep"}, {"a: b", 1, 1, "ErrMany"},
		{"[a, []]", 1, 1, "ErrMany"}, {"[[], a, b]", 1, 3, "ErrDeep"}, {"[a: b]", 2, 4, "0|!!seq[1]|!!map{2 3}|!!str:a|!!str:b"}, {"[a: b]", 1, 4, "ErrDeep"},
		{"--- a\n--- b", 0, 2, "0 1|!!str:a|!!str:b"}, {"--- a\n--- b", 0, 1, "ErrMany"}, {"--- []\n--- []", 1, 2, "0 1|!!seq[]|!!seq[]"},
		{"[&a a, *a, *a]", 1, 2, "0|!!seq[1 1 1]|!!str:a"}, {"[&a a, *a, *a]", 1, 1, "ErrMany"}, {"&a [*a]", 1, 1, "0|!!seq[0]"},
		{"[*a, b]", 1, 1, "ErrAlias"}, {"[b, *a]", 1, 1, "ErrMany"}, {"[*a, []]", 1, 5, "ErrAlias"}, {"[[], *a]", 1, 5, "ErrDeep"},
		// an error of Events is ahead of those
		{"[[]\n--- ]", 0, 0, "ErrSyntax"}, {"--- [a]\n--- !e!b c", 0, 0, "ErrTag"}, {"--- *a\n--- ]", 9, 9, "ErrSyntax"}, {"[a, \x7f]", 0, 0, "ErrChar"}, {"'a'\n b", 0, 0, "ErrIndent"}, {"- a\n-\n\tb", 1, 1, "ErrTab"},
		// and they are ahead of those behind
		{"!!int a", 0, 0, "ErrMany"}, {"!!null [!!int a]", 0, 9, "ErrDeep"}, {"[!!int a, *b]", 9, 9, "ErrAlias"}, {"{a: b, a: b, c: d}", 1, 6, "ErrMany"}, {"--- {a: b, a: b}\n--- *c", 1, 9, "ErrAlias"},
	} {
		if got := made(x.text, api.Limits{Bytes: 99, Depth: x.depth, Nodes: x.nodes}, api.Core); got != x.want {
			t.Errorf("P2101: %q within %d, %d: %s, not %s", x.text, x.depth, x.nodes, got, x.want)
		}
	}
}

// TestMost: P2101: limits are cut to what may be at all.
func TestMost(t *testing.T) {
	deep := strings.Repeat("[", api.MaxDepth) + strings.Repeat("]", api.MaxDepth)
	many := "[" + strings.Repeat("a,", api.MaxNodes-1) + "]"
	docs := strings.Repeat("--- \n", api.MaxNodes)
	for _, x := range []struct {
		text         string
		depth, nodes int
		want         string
	}{
		{deep, api.MaxDepth, api.MaxDepth, "0|"}, {deep, math.MaxInt, math.MaxInt, "0|"}, {deep, api.MaxDepth - 1, math.MaxInt, "ErrDeep"}, {deep, math.MaxInt, api.MaxDepth - 1, "ErrMany"}, {"[" + deep + "]", math.MaxInt, math.MaxInt, "ErrDeep"},
		{many, 1, api.MaxNodes, "0|"}, {many, math.MaxInt, math.MaxInt, "0|"}, {many, 1, api.MaxNodes - 1, "ErrMany"}, {"[a," + many[1:], math.MaxInt, math.MaxInt, "ErrMany"}, {many + "\n--- a", math.MaxInt, math.MaxInt, "ErrMany"},
		{docs, 0, api.MaxNodes, "0 1 2"}, {docs + "---", 0, math.MaxInt, "ErrMany"}, {docs, 0, api.MaxNodes - 1, "ErrMany"},
	} {
		got := made(x.text, api.Limits{Bytes: math.MaxInt, Depth: x.depth, Nodes: x.nodes}, api.Core)
		if !strings.HasPrefix(got, x.want) || strings.HasPrefix(got, "Err") && got != x.want {
			t.Errorf("P2101: %s within %d, %d: %s, not %s", short(x.text), x.depth, x.nodes, short(got), x.want)
		}
	}
}

// TestValues: P2101: a scalar whose text is no value of its tag, wherever it stands.
func TestValues(t *testing.T) {
	for _, text := range []string{
		"!!int a", "!!int ''", "!!int 1.5", "!!float a", "!!null a", "!!null 0", "!!bool 1", "!!bool yes", "!!bool", "!!int",
		"[a, !!int 1, !!int b]", "{!!int a: b}", "{a: !!bool b}", "? [!!null x]\n: y", "--- a\n--- !!int b", "[&a !!int b, *a]", "--- !!int a\n--- b", "!!int [!!int a]",
		"- |\n  1\n- !!int |\n  1\n", "!<tag:yaml.org,2002:int> a", "%TAG !e! tag:yaml.org,2002:\n--- !e!int a", "[&a {b: *a}, !!null c]", "[[[[!!float '']]]]",
		// ahead of keys that stand twice
		"{a: 1, a: !!int x}", "{a: 1, a: 2, b: !!int x}", "--- {a: 1, a: 2}\n--- !!int x", "{!!int a: 1, !!int a: 2}",
	} {
		for by := range 4 {
			if got := made(text, wide(), by); got != "ErrValue" {
				t.Errorf("P2101: %q by schema %d: %s", text, by, got)
			}
		}
	}
	loads(t, "!!int [a]", "0|!!int[1]|!!str:a")
	loads(t, "!!null {!!bool [] : !!float {}}", "0|!!null{1 2}|!!bool[]|!!float{}")
	loads(t, "[!!int 0x1F, !!float 0x1F, !!bool TRUE, !!null '~', !x 1.2.3, !!x ' ']", "0|!!seq[1 2 3 4 5 6]|!!int:0x1F|!!float:0x1F|!!bool:TRUE|!!null'~|<!x>:1.2.3|!!x' ")
	loads(t, "[!!int "+strings.Repeat("9", 5001)+"]", "ErrValue")
	loads(t, strings.Repeat("9", 5001), "0|!!str:"+strings.Repeat("9", 5001))
	loads(t, strings.Repeat("9", 5000), "0|!!int:"+strings.Repeat("9", 5000))
}

// TestTwice: P2101: keys that are Equal.
func TestTwice(t *testing.T) {
	for _, text := range []string{
		"{a: 1, a: 2}", "a: 1\nb: 2\na: 3", "a: 1\n'a': 2", "{a: 1, \"\\x61\": 2}", "? |-\n a\n: 1\n? a\n: 2", "{1: a, 0x1: b}", "{1: a, 01: b}", "{1.0: a, 1e0: b}", "{.nan: a, .NaN: b}", "{~: a, null: b}", "{? , ? ~}", "{true: 1, TRUE: 2}",
		"{&a b: 1, *a : 2}", "{&a []: 1, *a : 2}", "{[]: 1, []: 2}", "{[a]: 1, ['a']: 2}", "{[1]: 1, [0x1]: 2}", "{{a: b}: 1, {a: b}: 2}", "{&a [*a]: 1, &b [*b]: 2}", "&a {*a : 1, *a : 2}", "{{}: 1, {}: 2}",
		"{!x a: 1, !x 'a': 2}", "{!!str 1: a, '1': b}", "{!!int '1': a, 1: b}", "!x {a: 1, a: 2}", "!!set {a, b, a}", "[{a: 1}, [{a: 1, a: 2}]]", "--- a\n--- {a: 1, a: 2}\n--- b", "{b: {a: 1, a: 1}}", "? {a: 1, a: 2}\n: b", "!!map {a: 1, a: 1}", "{a, a}",
		"{! a: 1, a: 2}", "{!<!> a: 1, ! 'a': 2}",
	} {
		loads(t, text, "ErrTwice")
	}
	for _, text := range []string{"{1: a, '1': b}", "{a: 1, A: 1}", "{0.0: a, -0.0: b}", "{1: a, 1.0: b}", "{~: a, 'null': b}", "{!x a: 1, !y a: 2}", "{[]: 1, {}: 2}", "{[a, b]: 1, [b, a]: 2}", "{a: 1, b: 1}", "[a, a]", "{a: b, b: a}", "--- {a: 1}\n--- {a: 1}", "{a: {a: {a: a}}}", "{[1]: a, ['1']: b}", "{!x []: 1, []: 2}", "{! 1: a, 1: b}", "[a: 1, a: 1]"} {
		if got := made(text, wide(), api.Core); !strings.HasPrefix(got, "0") {
			t.Errorf("P2101: %q: %s", text, got)
		}
	}
}

// TestGreatTexts: P2102: a text of as many bytes as may be, and of one more.
func TestGreatTexts(t *testing.T) {
	most := strings.Repeat("a", api.MaxText)
	for _, x := range []struct{ text, want string }{
		{most, "0|!!str:" + most}, {most + "a", "ErrSyntax"}, {"'" + most + "'", "0|!!str'" + most}, {"'" + most + "a'", "ErrSyntax"}, {"|-\n " + most, "0|!!str'" + most}, {"|\n " + most, "ErrSyntax"},
		{"!!int " + most + "a", "ErrSyntax"}, {"!!int " + most, "ErrValue"}, {"[!!int b, " + most + "a]", "ErrSyntax"}, {"[!!int b, " + most + "]", "ErrValue"}, {"- {a: 1, a: 2}\n- " + most + "a", "ErrSyntax"}, {"- {a: 1, a: 2}\n- " + most, "ErrTwice"}, {"!x " + most + "a", "ErrSyntax"},
		{"[*b, " + most + "a]", "ErrAlias"}, {"- " + most + "a\n--- ]", "ErrSyntax"}, {"- " + most + "a\n--- !e!a b", "ErrTag"}, {"--- a\n--- '" + most + "a'", "ErrSyntax"},
		{"é" + most[2:], "0|!!str:é" + most[2:]}, {"é" + most[1:], "ErrSyntax"}, {"\"" + strings.Repeat("\\L", 87381) + "a\"", "0|!!str'" + strings.Repeat("\u2028", 87381) + "a"}, {"\"" + strings.Repeat("\\L", 87381) + "ab\"", "ErrSyntax"},
	} {
		loads(t, x.text, x.want)
	}
	if got := made(most+"a", api.Limits{Bytes: api.MaxText + 1}, api.Core); got != "ErrMany" {
		t.Errorf("P2102: a great text that is one too many: %s", got)
	}
}

// TestGreatTags: P2102: tags of as many bytes as may be, and of one more, however they are made.
func TestGreatTags(t *testing.T) {
	a := strings.Repeat("a", 2000)
	for _, x := range []struct{ text, want string }{
		{"!<" + a[:1000] + "> b", "0|<" + a[:1000] + ">:b"}, {"!<" + a[:1001] + "> b", "ErrSyntax"}, {"!" + a[:999] + " []", "0|<!" + a[:999] + ">[]"}, {"!" + a[:1000] + " []", "ErrSyntax"}, {"!" + a[:1000] + " {}", "ErrSyntax"},
		{"!!" + a[:1000-len(y)] + " b", "0|!!" + a[:1000-len(y)] + ":b"}, {"!!" + a[:1001-len(y)] + " b", "ErrSyntax"},
		{"%TAG !e! " + a[:999] + "\n--- !e!a b", "0|<" + a[:1000] + ">:b"}, {"%TAG !e! " + a[:1000] + "\n--- !e!a b", "ErrSyntax"}, {"%TAG !e! " + a[:999] + "\n--- !e!aa b", "ErrSyntax"}, {"%TAG !e! " + a + "\n--- !e!aa b", "ErrSyntax"}, {"%TAG !e! " + a + "\n--- b", "0|!!str:b"}, {"%TAG ! " + a[:1000] + "\n--- !a b", "ErrSyntax"}, {"%TAG ! " + a[:1000] + "\n--- ! b", "0|!!str:b"},
		{"!<%41" + a[:997] + "> b", "0|<%41" + a[:997] + ">:b"}, {"!<" + a[:999] + "%41> b", "ErrSyntax"}, {"!<" + a[:998] + "%41> b", "ErrSyntax"}, {"!<" + a[:997] + "%41> b", "0|<" + a[:997] + "%41>:b"},
		{"[!!int b, !" + a + " c]", "ErrSyntax"}, {"[!" + a + " c, !!int b]", "ErrSyntax"}, {"{a: 1, a: !" + a + " c}", "ErrSyntax"}, {"!" + a + " [*b]", "ErrAlias"}, {"!" + a + " [!e!a b]", "ErrTag"}, {"!" + a + " [", "ErrSyntax"}, {"--- !" + a + " b\n--- c: d: e", "ErrSyntax"}, {"!" + a + "é b", "ErrSyntax"},
	} {
		loads(t, x.text, x.want)
	}
	if got := made("!"+a+" []", api.Limits{Bytes: 9999, Nodes: 1}, api.Core); got != "ErrDeep" {
		t.Errorf("P2102: a great tag that is too deep: %s", got)
	}
}

// TestGreatGraphs: P2102: as many Kids as may be, and one more.
func TestGreatGraphs(t *testing.T) {
	const most = api.MaxNodes
	for _, x := range []struct{ text, want string }{
		{"&a [" + strings.Repeat("*a,", most) + "]", "0|!!seq[0" + strings.Repeat(" 0", most-1) + "]"}, {"&a [" + strings.Repeat("*a,", most+1) + "]", "ErrSyntax"},
		{"- &a 1\n- [" + strings.Repeat("*a,", most-2) + "]", "0|!!seq[1 2]|!!int:1|!!seq[1" + strings.Repeat(" 1", most-3) + "]"}, {"- &a 1\n- [" + strings.Repeat("*a,", most-1) + "]", "ErrSyntax"},
		{"--- &a [" + strings.Repeat("*a,", most/2) + "]\n--- &a [" + strings.Repeat("*a,", most/2) + "]", "0 1|!!seq[0" + strings.Repeat(" 0", most/2-1) + "]|!!seq[1" + strings.Repeat(" 1", most/2-1) + "]"},
		{"--- &a [" + strings.Repeat("*a,", most/2) + "]\n--- &a [" + strings.Repeat("*a,", most/2+1) + "]", "ErrSyntax"},
		{"&a [!!int x," + strings.Repeat("*a,", most-1) + "]", "ErrValue"}, {"&a [!!int x," + strings.Repeat("*a,", most) + "]", "ErrSyntax"},
		{"&a [{b: 1, b: 2}," + strings.Repeat("*a,", most-5) + "]", "ErrTwice"}, {"&a [{b: 1, b: 2}," + strings.Repeat("*a,", most-4) + "]", "ErrSyntax"},
		{"&a [" + strings.Repeat("*a,", most+1) + "*b]", "ErrAlias"}, {"&a [" + strings.Repeat("*a,", most+1) + "!e!a b]", "ErrTag"}, {"&a [" + strings.Repeat("*a,", 100000), "ErrSyntax"},
		{"&a {" + strings.Repeat("*a : *a,", most/2+1) + "}", "ErrSyntax"}, {"&a {" + strings.Repeat("*a : *a,", most/2) + "}", "ErrTwice"},
	} {
		loads(t, x.text, x.want)
	}
	if got := made("&a ["+strings.Repeat("*a,", most+1)+"b]", api.Limits{Bytes: 1 << 20, Depth: 1, Nodes: 1}, api.Core); got != "ErrMany" {
		t.Errorf("P2102: too many Kids, and too many nodes: %s", got)
	}
}

// TestLongPrefix: P2102: many tags of a long prefix are refused, and take no room for what nobody is told.
func TestLongPrefix(t *testing.T) {
	head := "%TAG !e! " + strings.Repeat("a", 1<<19) + "\n--- ["
	loads(t, head+strings.Repeat("!e!x ,", 19000)+"]", "ErrSyntax")
	loads(t, head+strings.Repeat("!e!x ,", 80000)+"]", "ErrMany")
	loads(t, head+strings.Repeat("!e!x ,", 80000), "ErrSyntax")
	loads(t, head+strings.Repeat("!e!x ,", 80000)+"]\n--- !e!x b", "ErrTag")
	loads(t, head+strings.Repeat("!e!x ,", 19000)+"*a]", "ErrAlias")
}

// TestRight: P2102: what is answered is graph.Right, each Tag is told, and what a Kind does not have is zero.
func TestRight(t *testing.T) {
	for _, text := range []string{"a: [1, &b {c: *b}]", "! [! a, ! {}]", "--- !x\n--- !\n--- !!null\n", "%TAG !! !\n--- !!a [!b c, !, ! d]", "&a [&b {*a : *b}]"} {
		g, e := Load([]byte(text), wide(), api.Core)
		if e != api.OK || !graph.Right(g) {
			t.Errorf("P2102: %q: %v, %v", text, g, e)
		}
		for at, x := range g.Nodes {
			if x.Tag == "" || x.Kind != api.NScalar && (x.Text != "" || x.Plain) || x.Kind == api.NScalar && len(x.Kids) > 0 {
				t.Errorf("P2102: %q: node %d is %v", text, at, x)
			}
		}
	}
}
