package graph

import (
	"math"
	"slices"
	"strconv"
	"strings"
	"testing"

	"marginalia/api"
	"marginalia/props"
)

// made is the graph that is written so: its nodes parted by /, of each the sign of its kind and its Kids (a: a scalar, [: a sequence, {: a mapping), as "[1 1/{2 2/a". It has no roots.
func made(s string) api.Graph {
	var g api.Graph
	if s == "" {
		return g
	}
	for _, x := range strings.Split(s, "/") {
		node := api.Node{Kind: strings.Index("?a[{", x[:1]), Tag: "t", Kids: numbers(x[1:])}
		if node.Kind == api.NScalar {
			node.Text = "x"
		}
		g.Nodes = append(g.Nodes, node)
	}
	return g
}

// numbers are those that stand in s.
func numbers(s string) []int {
	var list []int
	for _, x := range strings.Fields(s) {
		n, err := strconv.Atoi(x)
		if err != nil {
			panic(err)
		}
		list = append(list, n)
	}
	return list
}

// scalars is a graph of so many scalars.
func scalars(size int) api.Graph {
	return api.Graph{Nodes: slices.Repeat([]api.Node{{Kind: api.NScalar, Tag: "t"}}, size)}
}

// rooted is g with these roots.
func rooted(g api.Graph, roots ...int) api.Graph {
	g.Roots = roots
	return g
}

// alone is a graph of this node alone, which is its root.
func alone(x api.Node) api.Graph {
	return api.Graph{Nodes: []api.Node{x}, Roots: []int{0}}
}

// checkRight: P1701: whether g is Right; of one that is not, nothing is reached.
func checkRight(t *testing.T, what string, g api.Graph, want bool) {
	t.Helper()
	if Right(g) != want {
		t.Errorf("P1701: Right of %s: %v", what, !want)
	}
	if !want {
		checkNone(t, what, g, 0)
	}
}

// checkNone: P1701: nothing is reached from root.
func checkNone(t *testing.T, what string, g api.Graph, root int) {
	t.Helper()
	if list := Reach(g, root); len(list) != 0 {
		t.Errorf("P1701: Reach of %s from %d: %v", what, root, list)
	}
	if Cyclic(g, root) {
		t.Errorf("P1701: Cyclic of %s from %d", what, root)
	}
	if list := Uses(g, root); len(list) != 0 {
		t.Errorf("P1701: Uses of %s from %d: %v", what, root, list)
	}
}

// checkFrom: P1701: what is reached from root.
func checkFrom(t *testing.T, what string, g api.Graph, root int, reach []int, cyclic bool, uses []int) {
	t.Helper()
	if !Right(g) {
		t.Errorf("P1701: %s is not Right", what)
	}
	if got := Reach(g, root); !slices.Equal(got, reach) {
		t.Errorf("P1701: Reach of %s from %d: %v, not %v", what, root, got, reach)
	}
	if got := Cyclic(g, root); got != cyclic {
		t.Errorf("P1701: Cyclic of %s from %d: %v", what, root, got)
	}
	if got := Uses(g, root); !slices.Equal(got, uses) {
		t.Errorf("P1701: Uses of %s from %d: %v, not %v", what, root, got, uses)
	}
}

// TestRightOrdinary: P1701: graphs of each kind.
func TestRightOrdinary(t *testing.T) {
	for _, s := range []string{"", "a", "[", "{", "[0", "{0 0", "[0 0 0", "a/a", "[1/a", "[1 1 2/{2 2/a", "{1 2 2 1/a/[0", "a/[0/[0 1/[2 2 2"} {
		checkRight(t, s, made(s), true)
	}
	for _, s := range []string{"[1", "[-1", "{0", "{0 0 0", "a0", "a/a0", "a/[2", "a/{0 2", "a/{2 0", "a/{0", "[0 0 1", "[/?", "a/[0 -1"} {
		checkRight(t, s, made(s), false)
	}
}

// TestNumbers: P1701: Kids and roots are nodes, at each place where one may stand.
func TestNumbers(t *testing.T) {
	for size := 1; size < 5; size++ {
		for _, x := range []int{math.MinInt, math.MinInt32, -size, -1, 0, 1, size - 1, size, size + 1, math.MaxInt32, math.MaxInt} {
			want := 0 <= x && x < size
			what := strconv.Itoa(x) + " in " + strconv.Itoa(size) + " nodes"
			for at := range 3 {
				list := []int{0, size - 1, 0}
				list[at] = x
				checkRight(t, "root "+what, rooted(scalars(size), list...), want)
				checkRight(t, "root "+what, rooted(scalars(size), list[:at+1]...), want)
				for holder := range size {
					g := rooted(scalars(size), 0)
					g.Nodes[holder] = api.Node{Kind: api.NSeq, Tag: "t", Kids: list}
					checkRight(t, "Kid "+what, g, want)
					g.Nodes[holder] = api.Node{Kind: api.NMap, Tag: "t", Kids: append(slices.Clone(list), 0)}
					checkRight(t, "Kid "+what, g, want)
				}
			}
		}
	}
	for _, x := range []int{math.MinInt, -1, 0, 1, math.MaxInt} {
		checkRight(t, "no nodes and a root", rooted(api.Graph{}, x), false)
	}
	checkRight(t, "nothing", api.Graph{}, true)
	checkRight(t, "no roots", scalars(3), true)
	checkRight(t, "one root often", rooted(scalars(3), 1, 1, 1, 1, 1), true)
}

// TestCounts: P1701: how many nodes, roots and Kids there may be.
func TestCounts(t *testing.T) {
	const most = api.MaxNodes
	for _, more := range []int{-1, 0, 1, 2, most} {
		want := more <= 0
		size := most + more
		checkRight(t, "many nodes", scalars(size), want)
		checkRight(t, "many roots", rooted(scalars(1), make([]int, size)...), want)
		checkRight(t, "many roots", rooted(scalars(most), make([]int, size)...), want)
		g := scalars(3)
		g.Nodes[1] = api.Node{Kind: api.NSeq, Tag: "t", Kids: make([]int, size)}
		checkRight(t, "many Kids of one", g, want)
		for _, first := range []int{2, most / 2, size - 2} {
			g.Nodes[1].Kids = make([]int, first)
			g.Nodes[2] = api.Node{Kind: api.NSeq, Tag: "t", Kids: make([]int, size-first)}
			checkRight(t, "many Kids of two", g, want)
		}
		if size%2 == 0 {
			checkRight(t, "many Kids of a mapping", alone(api.Node{Kind: api.NMap, Tag: "t", Kids: make([]int, size)}), want)
		}
		each := api.Graph{Nodes: slices.Repeat([]api.Node{{Kind: api.NSeq, Tag: "t", Kids: []int{0}}}, min(size, most))}
		each.Nodes[0].Kids = make([]int, 1+max(more, 0))
		checkRight(t, "a Kid of each", each, want)
	}
	g := rooted(scalars(most), make([]int, most)...)
	g.Nodes[most-1] = api.Node{Kind: api.NSeq, Tag: "t", Kids: make([]int, most)}
	checkRight(t, "as many as may be of all", g, true)
}

// TestScalar: P1701: what a scalar may have.
func TestScalar(t *testing.T) {
	for _, text := range []string{"", "a", "\x00", "\x07é", "\n", "\x7f", "\u0080", "\u07ff", "\u0800", "\ud7ff", "\ue000", "\ufeff", "\ufffd", "\uffff", "\U00010000", "\U0010ffff", strings.Repeat("a", api.MaxText-1), strings.Repeat("a", api.MaxText), strings.Repeat("é", api.MaxText/2), strings.Repeat("a", api.MaxText-4) + "\U0010ffff"} {
		for _, isPlain := range []bool{false, true} {
			checkRight(t, "a text", alone(api.Node{Kind: api.NScalar, Tag: "t", Text: text, Plain: isPlain}), true)
			checkRight(t, "a scalar with a Kid", alone(api.Node{Kind: api.NScalar, Tag: "t", Text: text, Plain: isPlain, Kids: []int{0}}), false)
		}
	}
	for _, text := range []string{"\xff", "\xfe", "\x80", "\xbf", "a\x80", "\xc3", "a\xc3", "\xc3a", "\xc0\x80", "\xc1\xbf", "\xe0\x80\x80", "\xe0\x9f\xbf", "\xe2\x82", "\xed\xa0\x80", "\xed\xbf\xbf", "\xf0\x80\x80\x80", "\xf0\x8f\xbf\xbf", "\xf0\x9f\x98", "\xf4\x90\x80\x80", "\xf5\x80\x80\x80", "\xed\xa0\xbd\xed\xb8\x80", strings.Repeat("a", api.MaxText-1) + "\xc3", strings.Repeat("a", api.MaxText-1) + "é", strings.Repeat("a", api.MaxText+1), strings.Repeat("é", api.MaxText/2) + "a", strings.Repeat("é", api.MaxText)} {
		for _, isPlain := range []bool{false, true} {
			node := api.Node{Kind: api.NScalar, Tag: "t", Text: text, Plain: isPlain}
			checkRight(t, "a wrong text", alone(node), false)
			checkRight(t, "a wrong text that is not reached", rooted(api.Graph{Nodes: []api.Node{{Kind: api.NSeq, Tag: "t"}, node}}, 0), false)
		}
	}
}

// TestEachKind: P1701: each kind with and without a Text, Plain and Kids, and each number that is no kind.
func TestEachKind(t *testing.T) {
	for _, kind := range []int{math.MinInt, -3, -2, -1, 0, 1, 2, 3, 4, 5, 7, 8, 256 + 1, 1<<32 + 2, math.MaxInt} {
		for _, text := range []string{"", "a", " ", "\x00", "é", "\xff"} {
			for _, isPlain := range []bool{false, true} {
				for kids := range 6 {
					want := false
					switch kind {
					case 1:
						want = kids == 0 && text != "\xff"
					case 2:
						want = text == "" && !isPlain
					case 3:
						want = text == "" && !isPlain && (kids == 0 || kids == 2 || kids == 4)
					}
					node := api.Node{Kind: kind, Tag: "t", Text: text, Plain: isPlain, Kids: make([]int, kids)}
					what := "kind " + strconv.Itoa(kind) + ", " + strconv.Quote(text) + ", " + strconv.FormatBool(isPlain) + ", " + strconv.Itoa(kids)
					checkRight(t, what, alone(node), want)
					g := rooted(made("a/[0/{0 0"), 2)
					g.Nodes = append(g.Nodes, node)
					checkRight(t, what+" behind others", g, want)
				}
			}
		}
	}
}

// TestTag: P1701: which Tags a node may have, of whichever kind.
func TestTag(t *testing.T) {
	long := strings.Repeat("a", 1000)
	for tag, want := range map[string]bool{"": false, "!": false, "!!": true, "!a": true, "!!!": true, "a!": true, "a": true, "!!str": true, "tag:yaml.org,2002:str": true, "a b": false, " ": false, "a ": false, "é": false, "aé": false, "\xff": false, "a\n": false, "<a": false, "a>": false, "{": false, "a}": false, "\"": false, "|": false, "^": false, "`": false, "\\": false, ",[]": true, "%": false, "%4": false, "%4g": false, "%41": true, "%fF": true, "a%41b": true, "#;/?:@&=+$,_.!~*'()[]": true, long[1:]: true, long: true, long + "a": false, long + "%41": false, long[3:] + "%41": true, long[2:] + "%41": false, long[1:] + "%": false, long[1:] + " ": false, strings.Repeat("!", 1000): true, strings.Repeat("!", 1001): false, strings.Repeat(long, 1000): false} {
		for kind := api.NScalar; kind <= api.NMap; kind++ {
			checkRight(t, "Tag "+strconv.Quote(tag[:min(len(tag), 20)]), alone(api.Node{Kind: kind, Tag: tag}), want)
			g := rooted(made("[/a/a"), 0)
			g.Nodes[2] = api.Node{Kind: kind, Tag: tag}
			checkRight(t, "Tag "+strconv.Quote(tag[:min(len(tag), 20)])+" that is not reached", g, want)
		}
	}
	for b := range 256 {
		for _, form := range []string{"_", "a_", "_a", "a_b", "%_1", "%1_", "!_"} {
			for _, sign := range []string{string([]byte{byte(b)}), string(rune(b))} {
				tag := strings.ReplaceAll(form, "_", sign)
				checkRight(t, "Tag "+strconv.Quote(tag), alone(api.Node{Kind: api.NSeq, Tag: tag}), props.Valid(tag) && tag != "!")
			}
		}
	}
}

// TestFrom: P1701: what is reached, in which order, whether it goes round, and how often each is used.
func TestFrom(t *testing.T) {
	for _, x := range []struct {
		graph  string
		root   int
		reach  string
		cyclic bool
		uses   string
	}{
		{"a", 0, "0", false, "1"},
		{"[", 0, "0", false, "1"},
		{"{", 0, "0", false, "1"},
		{"[0", 0, "0", true, "2"},
		{"[0 0 0", 0, "0", true, "4"},
		{"{0 0", 0, "0", true, "3"},
		{"a/a/a", 1, "1", false, "0 1 0"},
		{"a/a/a", 2, "2", false, "0 0 1"},
		// A Kid that stands twice.
		{"[1 1/a", 0, "0 1", false, "1 2"},
		{"[1 2 1/a/a", 0, "0 1 2", false, "1 2 1"},
		{"{1 1/[2 2 2/a", 0, "0 1 2", false, "1 2 3"},
		// A node that is come to on two ways, and ahead of its turn.
		{"[1 2/[3/[3/a", 0, "0 1 3 2", false, "1 1 1 2"},
		{"[1 2/[2/a", 0, "0 1 2", false, "1 1 2"},
		{"[1 2/[3/a/[2", 0, "0 1 3 2", false, "1 1 2 1"},
		{"[2 1/[2/a", 0, "0 2 1", false, "1 1 2"},
		{"[1 2 3/[4/[3/a/[3", 0, "0 1 4 3 2", false, "1 1 1 3 1"},
		{"[1 2 3/a/[3 4/a/a", 0, "0 1 2 3 4", false, "1 1 1 2 1"},
		{"[3 2 1/a/a/a", 0, "0 3 2 1", false, "1 1 1 1"},
		{"{3 1 2 3/a/a/[1 2", 0, "0 3 1 2", false, "1 2 2 2"},
		// Rings: root is part of one, leads to one, comes to none.
		{"[1/[0", 0, "0 1", true, "2 1"},
		{"[1/[0", 1, "1 0", true, "1 2"},
		{"[1/[2/[0", 2, "2 0 1", true, "1 1 2"},
		{"[1/[2/[1", 0, "0 1 2", true, "1 2 1"},
		{"[1/[2/[1", 2, "2 1", true, "0 1 2"},
		{"[1/[1", 0, "0 1", true, "1 2"},
		{"[1/a/[2", 0, "0 1", false, "1 1 0"},
		{"[1/a/[3/[2", 0, "0 1", false, "1 1 0 0"},
		{"[1/a/[3 0/[2", 2, "2 3 0 1", true, "1 1 2 1"},
		{"[1 2/a/[3/[2", 0, "0 1 2 3", true, "1 1 2 1"},
		{"[1 2/[3/[3/[0", 0, "0 1 3 2", true, "2 1 1 2"},
		{"{1 2/{0 3/{3 1/a", 0, "0 1 3 2", true, "2 2 1 2"},
		// A ring far behind, that is come to only through the last Kid.
		{"[1 1 2/[3 3/[1 4/a/[2", 0, "0 1 3 2 4", true, "1 3 2 2 1"},
		// Two ways to one node, of different length, make no ring.
		{"[1 3/[2/[3/a", 0, "0 1 2 3", false, "1 1 1 2"},
		{"[3 1/[2/[3/a", 0, "0 3 1 2", false, "1 1 1 2"},
		{"[1 1/[2 2/[3 3/[", 0, "0 1 2 3", false, "1 2 2 2"},
		// What uses a node that it is not reached with does not count.
		{"[1/a/[1 1 1", 0, "0 1", false, "1 1 0"},
		{"[1/a/[0 1 2", 0, "0 1", false, "1 1 0"},
		{"[1/a/[0 1 2", 2, "2 0 1", true, "1 2 2"},
		{"[1/a/[0 1 2", 1, "1", false, "0 1 0"},
	} {
		for _, roots := range [][]int{nil, {x.root}, {0, 0}} {
			checkFrom(t, x.graph, rooted(made(x.graph), roots...), x.root, numbers(x.reach), x.cyclic, numbers(x.uses))
		}
	}
}

// TestNoRoot: P1701: of a root that is no node there is nothing.
func TestNoRoot(t *testing.T) {
	for _, s := range []string{"", "a", "[0", "[1/[0", "[1 2/a/a"} {
		g := made(s)
		for _, root := range []int{math.MinInt, math.MinInt32, -2, -1, len(g.Nodes), len(g.Nodes) + 1, math.MaxInt32, math.MaxInt} {
			checkNone(t, s, g, root)
		}
		for root := range g.Nodes {
			if list := Reach(g, root); len(list) == 0 || list[0] != root {
				t.Errorf("P1701: Reach of %s from %d: %v", s, root, list)
			}
		}
	}
}

// TestNotRight: P1701: a graph that is not Right has nothing to reach, though what is wrong is not come to.
func TestNotRight(t *testing.T) {
	for _, s := range []string{"[0/[9", "[0/[-1", "[0/?", "[0/{0", "[0/a0", "[9/[1", "[0 -1/a", "[1/[2/[3"} {
		g := made(s)
		for root := -1; root <= len(g.Nodes); root++ {
			checkNone(t, s, g, root)
		}
	}
	for _, turn := range []func(*api.Node){func(x *api.Node) { x.Tag = "" }, func(x *api.Node) { x.Tag = "!" }, func(x *api.Node) { x.Text = "\xff" }, func(x *api.Node) { x.Kind = 0 }, func(x *api.Node) { x.Kind, x.Text, x.Plain = api.NSeq, "", true }} {
		for at := range 3 {
			g := made("a/a/a")
			turn(&g.Nodes[at])
			for root := range 3 {
				checkNone(t, "wrong at "+strconv.Itoa(at), g, root)
			}
		}
	}
	for _, roots := range [][]int{{1}, {-1}, {0, 1}, make([]int, api.MaxNodes+1)} {
		checkNone(t, "wrong roots", rooted(made("[0"), roots...), 0)
	}
	checkNone(t, "too many nodes", scalars(api.MaxNodes+1), 0)
	checkNone(t, "too many Kids", alone(api.Node{Kind: api.NSeq, Tag: "t", Kids: make([]int, api.MaxNodes+1)}), 0)
}

// TestLeft: the loop over what is come to may be left at each step, and the same iterator may be ranged over again.
func TestLeft(t *testing.T) {
	type step struct {
		node  int
		stood standing
	}
	want := []step{{0, unmet}, {1, unmet}, {2, unmet}, {1, open}, {0, open}, {2, open}, {2, closed}, {3, unmet}, {1, closed}}
	all := comings(made("[1 2 3/[2/[1 0 2/[1"), 0)
	for stop := range len(want) + 1 {
		var got []step
		for node, stood := range all {
			got = append(got, step{node, stood})
			if len(got) > stop {
				break
			}
		}
		if !slices.Equal(got, want[:min(stop+1, len(want))]) {
			t.Errorf("P1701: up to %d: %v, not %v", stop, got, want)
		}
	}
}
