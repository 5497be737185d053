package compose

import (
	"math"
	"slices"
	"strconv"
	"strings"
	"testing"

	"marginalia/api"
	"marginalia/events"
	"marginalia/graph"
	"marginalia/lines"
	"marginalia/stream"
	"marginalia/utf"
)

// row is the row of events that is written so, word by word: documents' ends as + - without Flag and = . with it, ( and < for a sequence and a mapping, [ and { for such with Flag, ) ] and > } for their ends, *name, scalars as :plain 'single "double |literal ^folded, and ahead of a node &anchor and !tag.
func row(s string) []api.Event {
	var l []api.Event
	var x api.Event
	for _, word := range strings.Fields(s) {
		rest := word[1:]
		switch sign := word[0]; sign {
		case '&':
			x.Anchor = rest
			continue
		case '!':
			x.Tag = rest
			continue
		case '+', '=':
			x.Kind, x.Flag = api.EDoc, sign == '='
		case '-', '.':
			x.Kind, x.Flag = api.EDone, sign == '.'
		case '(', '[':
			x.Kind, x.Flag = api.ESeq, sign == '['
		case '<', '{':
			x.Kind, x.Flag = api.EMap, sign == '{'
		case ')', ']':
			x.Kind = api.ESeqEnd
		case '>', '}':
			x.Kind = api.EMapEnd
		case '*':
			x.Kind, x.Anchor = api.EAlias, rest
		default:
			x.Kind, x.Text, x.Style = api.EScalar, rest, 1+strings.IndexByte(":'\"|^", sign)
		}
		l = append(l, x)
		x = api.Event{}
	}
	return l
}

// show writes a graph: its roots, then its nodes, each with !tag and a blank ahead, if it has one: scalars as :plain and 'another, [kids] and {kids}. What a kind does not name stands behind a ?.
func show(g api.Graph) string {
	told := numbers(g.Roots) + ";"
	for _, x := range g.Nodes {
		told += " "
		if x.Tag != "" {
			told += "!" + x.Tag + " "
		}
		switch {
		case x.Kind == api.NScalar && len(x.Kids) == 0:
			told += map[bool]string{true: ":", false: "'"}[x.Plain] + x.Text
		case x.Kind == api.NSeq && x.Text == "" && !x.Plain:
			told += "[" + numbers(x.Kids) + "]"
		case x.Kind == api.NMap && x.Text == "" && !x.Plain:
			told += "{" + numbers(x.Kids) + "}"
		default:
			told += "?" + strconv.Itoa(x.Kind)
		}
	}
	return told
}

// numbers writes these, parted by blanks.
func numbers(list []int) string {
	words := make([]string, len(list))
	for at, x := range list {
		words[at] = strconv.Itoa(x)
	}
	return strings.Join(words, " ")
}

// nameOf is an error's name.
func nameOf(e api.Errno) string {
	names := map[api.Errno]string{api.ErrArg: "ErrArg", api.ErrDeep: "ErrDeep", api.ErrMany: "ErrMany", api.ErrAlias: "ErrAlias"}
	if name := names[e]; name != "" {
		return name
	}
	return "Err" + strconv.Itoa(int(e))
}

// made is what Graph tells of l within these limits.
func made(l []api.Event, depth, nodes int) string {
	g, e := Graph(l, depth, nodes)
	switch {
	case e == api.OK:
		return show(g)
	case len(g.Nodes) > 0 || len(g.Roots) > 0:
		return nameOf(e) + " beside " + show(g)
	}
	return nameOf(e)
}

// told is a row and what must be made of it.
type told struct{ row, want string }

// check: P1801: what Graph tells of each row, within limits that are great enough.
func check(t *testing.T, list []told) {
	t.Helper()
	for _, x := range list {
		if got := made(row(x.row), api.MaxDepth, api.MaxNodes); got != x.want {
			t.Errorf("P1801: %s: %s, not %s", x.row, got, x.want)
		}
	}
}

// limited is a row within limits, and what must be made of it.
type limited struct {
	row          string
	depth, nodes int
	want         string
}

// checkLimits: P1801: what Graph tells within limits.
func checkLimits(t *testing.T, list []limited) {
	t.Helper()
	for _, x := range list {
		if got := made(row(x.row), x.depth, x.nodes); got != x.want {
			t.Errorf("P1801: %s within %d, %d: %s, not %s", x.row, x.depth, x.nodes, got, x.want)
		}
	}
}

// far are numbers far below and far above all that may be.
func far() []int {
	return []int{math.MinInt, math.MinInt + 1, math.MinInt32, -1 << 16, math.MaxInt32, 1 << 32, 1<<32 + 1, math.MaxInt - 1, math.MaxInt}
}

// TestExample: P1801: the chapter's example, from its text on.
func TestExample(t *testing.T) {
	points, _ := utf.Points([]byte("&a [*a]"))
	read, _ := lines.Read(points)
	l, e := stream.Read(read)
	if e != api.OK {
		t.Fatalf("stream.Read: %v", e)
	}
	g, e := Graph(l, api.MaxDepth, api.MaxNodes)
	if got := show(g); e != api.OK || got != "0; [0]" {
		t.Errorf("P1801: %s, %v", got, e)
	}
	g.Nodes[0].Tag = "tag:yaml.org,2002:seq"
	if !graph.Right(g) || !graph.Cyclic(g, 0) || !slices.Equal(graph.Uses(g, 0), []int{2}) {
		t.Errorf("P1801: %v is not the example's graph", g)
	}
}

// TestDocuments: P1801: each document's node is a root, and the nodes of all stand in one row.
func TestDocuments(t *testing.T) {
	check(t, []told{
		{"", ";"},
		{"+ :a -", "0; :a"}, {"= 'a .", "0; 'a"}, {"+ ( ) -", "0; []"}, {"= [ ] -", "0; []"}, {"+ < > .", "0; {}"}, {"+ { } -", "0; {}"},
		{"+ :a - + :b -", "0 1; :a :b"}, {"= :a . = 'b - = :c .", "0 1 2; :a 'b :c"},
		{"+ ( ) - + < > - + :a -", "0 1 2; [] {} :a"}, {"+ ( ) - + ( ) - + ( ) -", "0 1 2; [] [] []"},
		{"+ ( :a :b ) - + :c -", "0 3; [1 2] :a :b :c"}, {"+ :c - + ( :a :b ) -", "0 1; :c [2 3] :a :b"},
		{"+ < :a ( :b ) > - = [ { :c :d } ] . + :e -", "0 4 8; {1 2} :a [3] :b [5] {6 7} :c :d :e"},
		{"+ ( ( :a ) ) - + ( ( :a ) ) -", "0 3; [1] [2] :a [4] [5] :a"},
	})
}

// TestKids: P1801: nodes in each other, each with the number of its event, and its Kids in order.
func TestKids(t *testing.T) {
	check(t, []told{
		{"+ ( :a ) -", "0; [1] :a"}, {"+ [ :a :b :c ] -", "0; [1 2 3] :a :b :c"}, {"+ ( :a :a ) -", "0; [1 2] :a :a"},
		{"+ < :a :b > -", "0; {1 2} :a :b"}, {"+ { :a :b :c :d } -", "0; {1 2 3 4} :a :b :c :d"}, {"+ < :a :a :a :a > -", "0; {1 2 3 4} :a :a :a :a"},
		{"+ ( ( ) ) -", "0; [1] []"}, {"+ ( ( ) ( ) ) -", "0; [1 2] [] []"}, {"+ ( < > ( ) ) -", "0; [1 2] {} []"}, {"+ < ( ) < > > -", "0; {1 2} [] {}"},
		{"+ ( ( :a ) :b ) -", "0; [1 3] [2] :a :b"}, {"+ ( :a ( :b ) ) -", "0; [1 2] :a [3] :b"}, {"+ ( ( :a ) ( :b ) ) -", "0; [1 3] [2] :a [4] :b"},
		{"+ ( ( ( :a ) ) :b ( :c ) ) -", "0; [1 4 5] [2] [3] :a :b [6] :c"},
		{"+ < ( :a :b ) :c :d < :e :f > > -", "0; {1 4 5 6} [2 3] :a :b :c :d {7 8} :e :f"}, {"+ < < < :a :b > :c > :d > -", "0; {1 6} {2 5} {3 4} :a :b :c :d"},
		{"+ ( { :a [ :b { :c :d } ] } :e ) -", "0; [1 8] {2 3} :a [4 5] :b {6 7} :c :d :e"},
	})
}

// one is what is made of a document of this node alone.
func one(t *testing.T, x ...api.Event) api.Node {
	t.Helper()
	g, e := Graph(slices.Concat(row("+"), x, row("-")), api.MaxDepth, api.MaxNodes)
	if e != api.OK || len(g.Nodes) != 1 || !slices.Equal(g.Roots, []int{0}) {
		t.Errorf("P1801: %v: %v, %v", x, g, e)
		return api.Node{}
	}
	return g.Nodes[0]
}

// sameNode tells whether two nodes are the same.
func sameNode(x, y api.Node) bool {
	return x.Kind == y.Kind && x.Tag == y.Tag && x.Text == y.Text && x.Plain == y.Plain && slices.Equal(x.Kids, y.Kids)
}

// odd are texts of all sorts.
func odd() []string {
	return []string{"", "a", " ", "\n", "\x00", "a b\n c", "null", "é", "\U0010ffff", "\ufeff", "\xff", "\xed\xa0\x80", "!", "!!str", "<a", "&a", "*a", "tag:yaml.org,2002:str", strings.Repeat("a", 1001), strings.Repeat("é", api.MaxText)}
}

// TestScalar: P1801: a scalar's Text and Tag stand as its event has them; it is Plain of Style SPlain alone; its Anchor is told nowhere.
func TestScalar(t *testing.T) {
	for _, text := range odd() {
		for _, tag := range odd() {
			for style := api.SPlain; style <= api.SFolded; style++ {
				for _, anchor := range []string{"", "n"} {
					got := one(t, api.Event{Kind: api.EScalar, Text: text, Tag: tag, Anchor: anchor, Style: style})
					if want := (api.Node{Kind: api.NScalar, Text: text, Tag: tag, Plain: style == api.SPlain}); !sameNode(got, want) {
						t.Fatalf("P1801: a scalar %.20q of Tag %.20q and Style %d: %.60v", text, tag, style, got)
					}
				}
			}
		}
	}
	check(t, []told{{"+ ( :a 'b \"c |d ^e ) -", "0; [1 2 3 4 5] :a 'b 'c 'd 'e"}, {"+ < : ' \" : > -", "0; {1 2 3 4} : ' ' :"}, {"+ ^a - + :a -", "0 1; 'a :a"}})
}

// TestCollection: P1801: a collection's Tag stands as its event has it; what its Flag is, is told nowhere.
func TestCollection(t *testing.T) {
	for _, tag := range odd() {
		for _, flag := range []bool{false, true} {
			for _, anchor := range []string{"", "n"} {
				got := one(t, api.Event{Kind: api.ESeq, Tag: tag, Anchor: anchor, Flag: flag}, api.Event{Kind: api.ESeqEnd})
				if !sameNode(got, api.Node{Kind: api.NSeq, Tag: tag}) {
					t.Errorf("P1801: a sequence of Tag %.20q: %.60v", tag, got)
				}
				got = one(t, api.Event{Kind: api.EMap, Tag: tag, Anchor: anchor, Flag: flag}, api.Event{Kind: api.EMapEnd})
				if !sameNode(got, api.Node{Kind: api.NMap, Tag: tag}) {
					t.Errorf("P1801: a mapping of Tag %.20q: %.60v", tag, got)
				}
			}
		}
	}
	check(t, []told{
		{"+ !t ( !u :a :b !v < !w :c !x ( ) > ) -", "0; !t [1 2 3] !u :a :b !v {4 5} !w :c !x []"},
		{"+ ( !t :a :b ) - + ( :c ) -", "0 3; [1 2] !t :a :b [4] :c"},
		{"+ !! !t :a -", "0; !t :a"}, {"+ ( !! :a &x !t :b *x ) -", "0; [1 2 2] !! :a !t :b"},
	})
}

// TestAnchor: P1801: an alias is no node, but stands for the one that has its Anchor.
func TestAnchor(t *testing.T) {
	check(t, []told{
		{"+ &x :a -", "0; :a"}, {"+ ( &x :a :b ) -", "0; [1 2] :a :b"},
		// An Anchor of a scalar, of a sequence, of a mapping.
		{"+ ( &x :a *x ) -", "0; [1 1] :a"}, {"+ ( &x 'a *x *x :b *x ) -", "0; [1 1 1 2 1] 'a :b"}, {"+ ( &x ( ) *x ) -", "0; [1 1] []"}, {"+ ( &x ( :a ) *x ) -", "0; [1 1] [2] :a"}, {"+ ( &x < > *x ) -", "0; [1 1] {}"}, {"+ ( &x { :a :b } *x ) -", "0; [1 1] {2 3} :a :b"},
		// An alias as a key, as a value, as both, and further in.
		{"+ < &x :a *x > -", "0; {1 1} :a"}, {"+ < &x :a :b *x :c > -", "0; {1 2 1 3} :a :b :c"}, {"+ < :a &x :b :c *x > -", "0; {1 2 3 2} :a :b :c"}, {"+ < &x :a *x *x *x > -", "0; {1 1 1 1} :a"}, {"+ < &x ( ) &y < > *y *x > -", "0; {1 2 2 1} [] {}"},
		{"+ ( &x :a ( *x ( *x ) ) *x ) -", "0; [1 2 1] :a [1 3] [1]"}, {"+ ( ( ( &x :a ) ) < :b *x > *x ) -", "0; [1 4 3] [2] [3] :a {5 3} :b"},
		// A node that is not yet ended.
		{"+ &x ( *x ) -", "0; [0]"}, {"+ &x ( *x *x *x ) -", "0; [0 0 0]"}, {"+ &x < *x *x > -", "0; {0 0}"}, {"+ &x < :a *x > -", "0; {1 0} :a"}, {"+ &x ( ( *x ) *x ) -", "0; [1 0] [0]"}, {"+ &x ( &y ( *x *y ) *y ) -", "0; [1 1] [0 1]"}, {"+ ( &x < :a ( *x ) *x :b > *x ) -", "0; [1 1] {2 3 1 4} :a [1] :b"},
		{"+ &x < < *x :a > ( *x ) > -", "0; {1 3} {0 2} :a [0]"},
		// Many Anchors, and names that are nearly the same.
		{"+ ( &x :a &y :b *y *x *y ) -", "0; [1 2 2 1 2] :a :b"}, {"+ ( &x :a &xx :b &X :c *x *xx *X ) -", "0; [1 2 3 1 2 3] :a :b :c"}, {"+ ( &a :b &b :a *a *b ) -", "0; [1 2 1 2] :b :a"}, {"+ ( &x !t 'a *x ) -", "0; [1 1] !t 'a"},
	})
	for _, name := range odd() {
		if name == "" {
			continue
		}
		l := []api.Event{{Kind: api.EDoc}, {Kind: api.ESeq}, {Kind: api.EScalar, Style: 1, Anchor: name}, {Kind: api.EAlias, Anchor: name}, {Kind: api.ESeqEnd}, {Kind: api.EDone}}
		if got := made(l, 1, 2); got != "0; [1 1] :" {
			t.Errorf("P1801: an Anchor %.20q: %s", name, got)
		}
		l[3].Anchor = name + "x"
		if got := made(l, 1, 2); got != "ErrAlias" {
			t.Errorf("P1801: an Anchor %.20q and an alias of another: %s", name, got)
		}
	}
}

// TestAnchorAgain: P1801: an Anchor that is given again is from then on the later node's; what stood for the one ahead stays.
func TestAnchorAgain(t *testing.T) {
	check(t, []told{
		{"+ ( &x :a *x &x :b *x ) -", "0; [1 1 2 2] :a :b"}, {"+ ( &x :a &x :b *x ) -", "0; [1 2 2] :a :b"}, {"+ ( &x :a *x *x &x ( *x ) *x &x < > *x ) -", "0; [1 1 1 2 2 3 3] :a [2] {}"},
		{"+ < &x :a &x :b *x *x > -", "0; {1 2 2 2} :a :b"}, {"+ < &x :a *x &x :b *x > -", "0; {1 1 2 2} :a :b"},
		// To a collection, and in it again: behind its end the inner one has it still.
		{"+ &x ( &x :a *x ) -", "0; [1 1] :a"}, {"+ &x ( *x &x :a *x ) -", "0; [0 1 1] :a"}, {"+ ( &x ( &x :a ) *x ) -", "0; [1 2] [2] :a"}, {"+ ( &x ( *x &x ( *x ) *x ) *x ) -", "0; [1 2] [1 2 2] [2]"}, {"+ ( &x < &x :a *x > *x ) -", "0; [1 2] {2 2} :a"}, {"+ &x < *x &x ( ) *x *x > -", "0; {0 1 1 1} []"}, {"+ ( &x ( &x ( &x ( *x ) *x ) *x ) *x ) -", "0; [1 3] [2 3] [3 3] [3]"},
		// Another one stays whose it is.
		{"+ ( &x :a &y :b &x :c *y *x ) -", "0; [1 2 3 2 3] :a :b :c"}, {"+ ( &y :a &x :b &x :c *y *x ) -", "0; [1 2 3 1 3] :a :b :c"},
		// In each document anew.
		{"+ ( &x :a *x ) - + ( &x :b *x ) -", "0 2; [1 1] :a [3 3] :b"}, {"+ &x ( *x ) - + &x ( *x ) - + &x < *x *x > -", "0 1 2; [0] [1] {2 2}"}, {"+ &x :a - + ( &x :b *x &x :c *x ) -", "0 1; :a [2 2 3 3] :b :c"},
	})
}

// TestNoAnchor: P1801: an alias of what has no such Anchor as yet, in this document.
func TestNoAnchor(t *testing.T) {
	var list []told
	for _, s := range []string{
		"+ *x -", "= *x .", "+ ( *x ) -", "+ ( :a *x ) -", "+ < *x :a > -", "+ < :a *x > -", "+ ( ( *x ) ) -", "+ ( &y :a *x ) -", "+ &y ( *x ) -", "+ ( &X :a *x ) -", "+ ( !x :x *x ) -", "+ ( &xx :a *x ) -",
		// Ahead of its Anchor.
		"+ ( *x &x :a ) -", "+ ( *x &x :a *x ) -", "+ < *x &x :a > -", "+ < :a *x &x :b :c > -", "+ ( ( *x ) &x :a ) -", "+ ( *x &x ( ) ) -", "+ ( &y :a *x &x :b *y ) -",
		// Of another document.
		"+ &x :a - + *x -", "+ &x :a - + ( *x ) -", "+ &x ( ) - + ( *x ) -", "= &x < > . = < :a *x > .", "+ ( &x :a *x ) - + ( *x ) -", "+ *x - + &x :a -", "+ &x :a - + :b - + ( *x ) -", "+ &x :a - + &y :b - + ( *x ) -", "+ &x :a - + ( *x &x :b ) -", "+ ( &x :a ) - + ( &y :b *y *x ) -",
	} {
		list = append(list, told{s, "ErrAlias"})
	}
	check(t, list)
}

// TestNotRight: P1801: what is not events.Right, of each kind, with whatever limits, and ahead of each other error.
func TestNotRight(t *testing.T) {
	rows := [][]api.Event{{{}}, {{Kind: -1}}, {{Kind: 9}}}
	for _, s := range []string{
		"+", "-", ":a", "*x", "( )", "+ -", "+ :a", ":a -", "+ :a :b -", "+ :a - -", "+ + :a -", "+ :a - +", "+ :a - + -", ":a + :a -", "+ :a - :a",
		"+ ( -", "+ ) -", "+ ( :a -", "+ ( ) ) -", "+ ( > -", "+ < ) -", "+ ( < ) > -", "+ < :a > -", "+ < :a :b :c > -", "+ < ( ) > -", "+ < *x > -", "+ ( - )", "+ ( + :a - ) -", "+ ( *x -", "+ *x", "+ *x *x -",
	} {
		rows = append(rows, row(s))
	}
	whole := row("+ &x !t ( &y !t :a *x &z !t < :b *y > ) .")
	for _, turn := range []func(*api.Event){
		func(x *api.Event) { x.Kind = 0 }, func(x *api.Event) { x.Kind = math.MinInt }, func(x *api.Event) { x.Kind += 8 },
		func(x *api.Event) { x.Text, x.Style, x.Flag = "x", -1, true }, func(x *api.Event) { x.Style = 6 }, func(x *api.Event) { x.Style = math.MinInt },
		func(x *api.Event) { x.Text, x.Tag, x.Anchor, x.Style, x.Flag = "x", "x", "x", api.SPlain, true },
	} {
		for at := range whole {
			l := slices.Clone(whole)
			turn(&l[at])
			rows = append(rows, l)
		}
	}
	for at := range whole {
		rows = append(rows, slices.Delete(slices.Clone(whole), at, at+1), whole[:at], append(slices.Clone(whole), whole[at]))
	}
	for _, l := range rows {
		if events.Right(l) { // a pair, or an entry, less
			continue
		}
		for _, depth := range []int{-1, 0, 1, 200, 201} {
			for _, nodes := range []int{-1, 0, 1, 20000, 20001} {
				if got := made(l, depth, nodes); got != "ErrArg" {
					t.Errorf("P1801: %v within %d, %d: %s", l, depth, nodes, got)
				}
				more := slices.Concat(row("+ ( ( *z ) ) -"), l)
				if got := made(more, depth, nodes); got != "ErrArg" && !events.Right(more) {
					t.Errorf("P1801: %v within %d, %d: %s", more, depth, nodes, got)
				}
			}
		}
	}
	for _, x := range []api.Event{{Kind: api.EAlias}, {Kind: api.EScalar}, {Kind: api.EScalar, Style: 6}, {Kind: api.EScalar, Style: 1, Flag: true}, {Kind: api.EAlias, Anchor: "x", Tag: "t"}, {Kind: api.ESeqEnd}} {
		for _, limit := range []int{-1, 0, 1, 300} {
			if got := made(slices.Concat(row("+ ( *z"), []api.Event{x}, row(") -")), limit, limit); got != "ErrArg" {
				t.Errorf("P1801: %v in a sequence within %d: %s", x, limit, got)
			}
		}
	}
}

// nested is a document of that many collections in each other, a scalar in the last one: sequences (form 0), mappings with the next one as a value (1) or as a key (2), or all by turns (3).
func nested(form, deep int) []api.Event {
	var begins, ends []string
	for at := range deep {
		kind := form
		if form == 3 {
			kind = at % 3
		}
		begins = append(begins, []string{"(", "< :k", "<"}[kind])
		ends = append(ends, []string{")", ">", ":v >"}[kind])
	}
	slices.Reverse(ends)
	return row("+ " + strings.Join(begins, " ") + " :z " + strings.Join(ends, " ") + " -")
}

// TestDeep: P1801: as many collections in each other as depth says, and no more.
func TestDeep(t *testing.T) {
	for form := range 4 {
		for _, deep := range []int{0, 1, 2, 3, 4, 7, 199, 200} {
			l := nested(form, deep)
			whole := made(l, deep, api.MaxNodes)
			if strings.Count(whole, "[")+strings.Count(whole, "{") != deep {
				t.Errorf("P1801: %d deep of form %d: %s", deep, form, whole)
			}
			for _, depth := range append([]int{deep - 2, deep - 1, deep, deep + 1, 0, 1, 3, 199, 200, 201, 1000}, far()...) {
				want := whole
				if max(depth, 0) < deep {
					want = "ErrDeep"
				}
				if got := made(l, depth, api.MaxNodes); got != want {
					t.Errorf("P1801: %d deep of form %d within %d: %s", deep, form, depth, got)
				}
				if got := made(slices.Concat(row("+ :a -"), l), depth, api.MaxNodes); (got == "ErrDeep") != (want == "ErrDeep") {
					t.Errorf("P1801: %d deep of form %d behind another within %d: %s", deep, form, depth, got)
				}
			}
		}
		for _, deep := range []int{api.MaxDepth + 1, api.MaxDepth + 2, 3 * api.MaxDepth} {
			for _, depth := range append([]int{0, 199, 200, 201, deep, deep + 1}, far()...) {
				if got := made(nested(form, deep), depth, api.MaxNodes); got != "ErrDeep" {
					t.Errorf("P1801: %d deep of form %d within %d: %s", deep, form, depth, got)
				}
			}
		}
	}
	checkLimits(t, []limited{
		{"+ :a -", 0, 1, "0; :a"}, {"+ :a -", -1, 1, "0; :a"}, {"+ ( ) -", 0, 1, "ErrDeep"}, {"+ ( ) -", -7, 1, "ErrDeep"}, {"+ [ ] -", 0, 1, "ErrDeep"}, {"+ < > -", 0, 1, "ErrDeep"}, {"+ { } -", 0, 1, "ErrDeep"}, {"+ :a - + ( ) -", 0, 9, "ErrDeep"},
		// Beside each other they do not count.
		{"+ ( ) - + < > - + [ ] -", 1, 9, "0 1 2; [] {} []"}, {"+ ( ( ) < > ( ) ) -", 2, 9, "0; [1 2 3] [] {} []"}, {"+ ( ( ) ( ( ) ) ) -", 2, 9, "ErrDeep"}, {"+ ( ( ) ( ( ) ) ) -", 3, 9, "0; [1 2] [] [3] []"}, {"+ < ( ) ( ) > -", 1, 9, "ErrDeep"}, {"+ < ( ) ( ) > -", 2, 9, "0; {1 2} [] []"},
		// What an alias stands for does not count.
		{"+ &x ( *x ) -", 1, 9, "0; [0]"}, {"+ &x ( *x *x ( *x ) ) -", 2, 9, "0; [0 0 1] [0]"}, {"+ ( &x ( ) &y ( *x ) &z ( *y ) ( *z ) ) -", 2, 9, "0; [1 2 3 4] [] [1] [2] [3]"},
	})
}

// TestMany: P1801: as many nodes as nodes says, in all documents together, and no more.
func TestMany(t *testing.T) {
	checkLimits(t, []limited{
		{"", 0, 0, ";"}, {"", -1, -1, ";"}, {"", math.MinInt, math.MinInt, ";"}, {"", 9, 0, ";"},
		{"+ :a -", 9, 0, "ErrMany"}, {"+ :a -", 9, -1, "ErrMany"}, {"+ ( ) -", 9, 0, "ErrMany"}, {"+ < > -", 9, -9, "ErrMany"}, {"+ :a -", 9, 1, "0; :a"}, {"+ ( ) -", 9, 1, "0; []"}, {"+ { } -", 9, 1, "0; {}"},
		{"+ :a - + :b -", 9, 1, "ErrMany"}, {"+ :a - + :b -", 9, 2, "0 1; :a :b"}, {"+ :a - + ( :b ) -", 9, 2, "ErrMany"}, {"+ :a - + ( :b ) -", 9, 3, "0 1; :a [2] :b"}, {"+ ( :b ) - + :a - + < > -", 9, 3, "ErrMany"}, {"+ ( :b ) - + :a - + < > -", 9, 4, "0 2 3; [1] :b :a {}"},
		{"+ ( :a :b ) -", 9, 2, "ErrMany"}, {"+ ( :a :b ) -", 9, 3, "0; [1 2] :a :b"}, {"+ < :a :b > -", 9, 2, "ErrMany"}, {"+ < :a :b > -", 9, 3, "0; {1 2} :a :b"}, {"+ ( ( ) ( ) ) -", 9, 2, "ErrMany"}, {"+ ( < > < > ) -", 9, 3, "0; [1 2] {} {}"},
		// Aliases are none.
		{"+ ( &x :a *x *x *x ) -", 9, 2, "0; [1 1 1 1] :a"}, {"+ &x ( *x *x ) -", 9, 1, "0; [0 0]"}, {"+ < &x :a *x *x *x > - + &x ( *x ) -", 9, 3, "0 2; {1 1 1 1} :a [2]"}, {"+ ( &x :a *x :b ) -", 9, 2, "ErrMany"}, {"+ ( &x :a *x :b ) -", 9, 3, "0; [1 1 2] :a :b"},
	})
	l := row("+ &x ( :a < ( :b *x ) *x 'c { } > ) - + :d - + [ :e &y :f *y ] -")
	count := events.Nodes(l)
	whole := made(l, 9, count)
	for nodes := -3; nodes < count+3; nodes++ {
		want := whole
		if nodes < count {
			want = "ErrMany"
		}
		if got := made(l, 9, nodes); got != want {
			t.Errorf("P1801: %d nodes within %d: %s", count, nodes, got)
		}
	}
	for _, nodes := range far() {
		if got := made(l, 9, nodes); got != map[bool]string{true: whole, false: "ErrMany"}[nodes > 0] {
			t.Errorf("P1801: %d nodes within %d: %s", count, nodes, got)
		}
	}
}

// TestMostNodes: P1801: no number lets more nodes be than MaxNodes, in one document or in many, as scalars or as collections.
func TestMostNodes(t *testing.T) {
	for _, x := range []struct{ begin, piece, end string }{{"+ ( ", ":a ", ") -"}, {"+ ( ", "( ) ", ") -"}, {"+ ( ", "< > *x ", ") -"}, {"", "+ :a - ", ""}, {"", "+ ( ) - ", ""}, {"+ &x < ", "&x :a *x ", "> -"}} {
		fixed := strings.Count(x.begin, "(") + strings.Count(x.begin, "<")
		for _, size := range []int{api.MaxNodes - 1, api.MaxNodes, api.MaxNodes + 1, 2 * api.MaxNodes} {
			l := row(strings.Replace(x.begin, "+ (", "+ &x (", 1) + strings.Repeat(x.piece, size-fixed) + x.end)
			for _, nodes := range append([]int{0, 1, api.MaxNodes - 2, api.MaxNodes - 1, api.MaxNodes, api.MaxNodes + 1, 2 * api.MaxNodes}, far()...) {
				g, e := Graph(l, 2, nodes)
				want := api.OK
				if size > min(nodes, api.MaxNodes) {
					want = api.ErrMany
				}
				if e != want || e == api.OK && len(g.Nodes) != size || e != api.OK && (g.Nodes != nil || g.Roots != nil) {
					t.Errorf("P1801: %d nodes of %q within %d: %d nodes, %v", size, x.piece, nodes, len(g.Nodes), e)
				}
			}
		}
	}
}

// TestFirst: P1801: of several errors the one that is met first is told; of one event ErrDeep ahead of ErrMany.
func TestFirst(t *testing.T) {
	checkLimits(t, []limited{
		{"+ ( ( *x ) ) -", 1, 9, "ErrDeep"}, {"+ ( *x ( ) ) -", 1, 9, "ErrAlias"}, {"+ ( ( ) *x ) -", 1, 9, "ErrDeep"}, {"+ *x - + ( ) -", 0, 9, "ErrAlias"}, {"+ ( ) - + *x -", 0, 9, "ErrDeep"},
		{"+ ( *x :a ) -", 9, 1, "ErrAlias"}, {"+ ( :a *x ) -", 9, 1, "ErrMany"}, {"+ < :a :b *x :c > -", 9, 2, "ErrMany"}, {"+ < :a *x :b :c > -", 9, 2, "ErrAlias"}, {"+ :a - + *x -", 9, 0, "ErrMany"}, {"+ *x - + :a -", 9, 0, "ErrAlias"},
		{"+ ( :a ( ) ) -", 1, 1, "ErrMany"}, {"+ ( ( :a ) ) -", 1, 2, "ErrDeep"}, {"+ ( ( ) :a ) -", 1, 2, "ErrDeep"}, {"+ ( :a :b ( ) ) -", 1, 2, "ErrMany"}, {"+ :a - + ( ) -", 0, 0, "ErrMany"}, {"+ ( ) - + :a -", 0, 0, "ErrDeep"},
		{"+ ( ) -", 0, 0, "ErrDeep"}, {"+ < > -", -1, -1, "ErrDeep"}, {"+ ( ( ) ) -", 1, 1, "ErrDeep"}, {"+ ( < > ) -", 1, 1, "ErrDeep"}, {"+ ( :a ( ) ) -", 1, 2, "ErrDeep"}, {"+ ( ) -", math.MinInt, math.MinInt, "ErrDeep"},
		{"+ ( &x :a *x *y ( ) :b ) -", 1, 2, "ErrAlias"}, {"+ ( &x :a *x ( ) *y :b ) -", 1, 2, "ErrDeep"}, {"+ ( &x :a *x :b ( ) *y ) -", 1, 2, "ErrMany"}, {"+ ( &x :a *x :b ( ) *y ) -", 1, 3, "ErrDeep"}, {"+ ( &x :a *x :b ( ) *y ) -", 2, 4, "ErrAlias"},
		// The Anchor of what may not be is not needed any more.
		{"+ ( &x ( ) *x ) -", 1, 9, "ErrDeep"}, {"+ ( &x :a *x ) -", 1, 1, "ErrMany"},
	})
}
