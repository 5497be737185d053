package compose

import (
	"math/rand"
	"slices"
	"strconv"
	"strings"
	"testing"

	"marginalia/api"
	"marginalia/events"
	"marginalia/graph"
)

// isNode tells whether an event is a node.
func isNode(x api.Event) bool {
	return x.Kind == api.EScalar || x.Kind == api.ESeq || x.Kind == api.EMap
}

// deepAt is how many collections stand open behind event at.
func deepAt(l []api.Event, at int) int {
	deep := 0
	for _, x := range l[:at+1] {
		switch x.Kind {
		case api.ESeq, api.EMap:
			deep++
		case api.ESeqEnd, api.EMapEnd:
			deep--
		}
	}
	return deep
}

// standsFor is the event of the node for which event at stands: itself, or that behind which nothing else in its document has its Anchor; -1: none.
func standsFor(l []api.Event, at int) int {
	if l[at].Kind != api.EAlias {
		return at
	}
	for from := at - 1; l[from].Kind != api.EDoc; from-- {
		if isNode(l[from]) && l[from].Anchor == l[at].Anchor {
			return from
		}
	}
	return -1
}

// otherError is the first error of a row that is Right, looked for event by event.
func otherError(l []api.Event, depth, nodes int) api.Errno {
	for at, x := range l {
		switch {
		case x.Kind == api.EAlias && standsFor(l, at) < 0:
			return api.ErrAlias
		case isNode(x) && x.Kind != api.EScalar && deepAt(l, at) > min(max(depth, 0), 200):
			return api.ErrDeep
		case isNode(x) && events.Nodes(l[:at+1]) > min(max(nodes, 0), 20000):
			return api.ErrMany
		}
	}
	return api.OK
}

// otherKids are the numbers of the nodes that stand one behind the other from event at on, up to what is none.
func otherKids(l []api.Event, at int) []int {
	var list []int
	for behind := events.End(l, at); behind > at; at, behind = behind, events.End(l, behind) {
		list = append(list, events.Nodes(l[:standsFor(l, at)]))
	}
	return list
}

// otherGraph is a second way to what Graph tells: it looks at each event alone, and at what stands ahead of it.
func otherGraph(l []api.Event, depth, nodes int) (api.Graph, api.Errno) {
	if !events.Right(l) {
		return api.Graph{}, api.ErrArg
	}
	if e := otherError(l, depth, nodes); e != api.OK {
		return api.Graph{}, e
	}
	var g api.Graph
	for at, x := range l {
		switch x.Kind {
		case api.EDoc:
			g.Roots = append(g.Roots, otherKids(l, at+1)...)
		case api.EScalar:
			g.Nodes = append(g.Nodes, api.Node{Kind: api.NScalar, Tag: x.Tag, Text: x.Text, Plain: x.Style == api.SPlain})
		case api.ESeq:
			g.Nodes = append(g.Nodes, api.Node{Kind: api.NSeq, Tag: x.Tag, Kids: otherKids(l, at+1)})
		case api.EMap:
			g.Nodes = append(g.Nodes, api.Node{Kind: api.NMap, Tag: x.Tag, Kids: otherKids(l, at+1)})
		}
	}
	return g, api.OK
}

// sameGraph tells whether two graphs are the same, number by number.
func sameGraph(g, h api.Graph) bool {
	return slices.Equal(g.Roots, h.Roots) && slices.EqualFunc(g.Nodes, h.Nodes, sameNode)
}

// checkOther: P1801: within these limits the same is told as the second way tells.
func checkOther(t *testing.T, l []api.Event, depth, nodes int) api.Errno {
	t.Helper()
	want, e := otherGraph(l, depth, nodes)
	got, wrong := Graph(l, depth, nodes)
	if wrong != e || !sameGraph(got, want) {
		t.Errorf("P1801: %v within %d, %d: %s, %v, not %s, %v", l, depth, nodes, show(got), wrong, show(want), e)
	}
	return e
}

// eachRow tells all rows of at most size of these words, ahead and behind as many as there are of others.
func eachRow(words []string, size int, begin, end string, tell func([]api.Event)) {
	list := [][]api.Event{nil}
	for _, word := range words {
		list = append(list, row(word))
	}
	ahead, behind := row(begin), row(end)
	var each func([]api.Event, int)
	each = func(l []api.Event, more int) {
		tell(slices.Concat(l, behind))
		if more == 0 {
			return
		}
		for _, x := range list[1:] {
			each(slices.Concat(l, x), more-1)
		}
	}
	each(ahead, size)
}

// TestAllRows: P1801: every short row, within each limit that matters, held against the second way.
func TestAllRows(t *testing.T) {
	t.Parallel()
	for _, x := range []struct {
		words      string
		size       int
		begin, end string
	}{
		{"+|-|:a|&x :b|*x|(|)|<|>", 6, "", ""},
		{":a|&x 'b|*x|(|&x (|)|<|&x <|>", 5, "+", "-"},
		{"&x :a|&y :b|*x|*y|&x (|&y (|)", 6, "+ (", ") -"},
		{"&x :a|*x|&x <|< *x|>|( )", 6, "+ &x <", "> -"},
		{"- +|&x :a|*x|(|)", 6, "+ (", ") -"},
	} {
		right := 0
		eachRow(strings.Split(x.words, "|"), x.size, x.begin, x.end, func(l []api.Event) {
			if !events.Right(l) {
				checkOther(t, l, 0, 0)
				checkOther(t, l, 9, 9)
				return
			}
			right++
			for depth := range 4 {
				for nodes := range 5 {
					checkOther(t, l, depth, nodes)
				}
			}
			checkOther(t, l, 9, 9)
		})
		if right < 30 {
			t.Errorf("only %d rows of %s are Right", right, x.words)
		}
	}
}

// grower makes rows by chance.
type grower struct {
	from *rand.Rand
	list []api.Event
	left int // how many nodes may come, but for those that must
}

// props are a Tag and an Anchor, or none.
func (g *grower) props() (string, string) {
	tag, anchor := "", ""
	if g.from.Intn(3) == 0 {
		tag = "t" + strconv.Itoa(g.from.Intn(5))
	}
	if g.from.Intn(2) == 0 {
		anchor = string(rune('a' + g.from.Intn(4)))
	}
	return tag, anchor
}

// node adds a node, at that depth.
func (g *grower) node(deep int) {
	g.left--
	tag, anchor := g.props()
	flag := g.from.Intn(2) == 0
	switch kind := g.from.Intn(8); {
	case kind < 2 && deep > 0:
		g.list = append(g.list, api.Event{Kind: api.EAlias, Anchor: string(rune('a' + g.from.Intn(4)))})
	case kind < 4 || g.left < 0:
		g.list = append(g.list, api.Event{Kind: api.EScalar, Text: strconv.Itoa(g.left), Tag: tag, Anchor: anchor, Style: 1 + g.from.Intn(5)})
	case kind < 6:
		g.list = append(g.list, api.Event{Kind: api.ESeq, Tag: tag, Anchor: anchor, Flag: flag})
		for range g.from.Intn(5) {
			g.node(deep + 1)
		}
		g.list = append(g.list, api.Event{Kind: api.ESeqEnd})
	default:
		g.list = append(g.list, api.Event{Kind: api.EMap, Tag: tag, Anchor: anchor, Flag: flag})
		for range g.from.Intn(4) {
			g.node(deep + 1)
			g.node(deep + 1)
		}
		g.list = append(g.list, api.Event{Kind: api.EMapEnd})
	}
}

// grown is a row of documents by chance.
func grown(from *rand.Rand) []api.Event {
	g := grower{from: from}
	for range from.Intn(4) {
		g.left = from.Intn(25)
		g.list = append(g.list, api.Event{Kind: api.EDoc, Flag: from.Intn(2) == 0})
		g.node(0)
		g.list = append(g.list, api.Event{Kind: api.EDone, Flag: from.Intn(2) == 0})
	}
	return g.list
}

// TestGrown: P1801: greater rows, within limits that are great enough and not, and rows with a fault.
func TestGrown(t *testing.T) {
	t.Parallel()
	from := rand.New(rand.NewSource(18))
	told := map[api.Errno]int{}
	for range 12000 {
		l := grown(from)
		deep, nodes := events.Depth(l), events.Nodes(l)
		if !events.Right(l) {
			t.Fatalf("%v is not Right", l)
		}
		told[checkOther(t, l, deep, nodes)]++
		told[checkOther(t, l, deep-1, nodes)]++
		told[checkOther(t, l, deep, nodes-1)]++
		told[checkOther(t, l, from.Intn(deep+2), from.Intn(nodes+2))]++
		if len(l) > 0 {
			at := from.Intn(len(l))
			told[checkOther(t, slices.Delete(slices.Clone(l), at, at+1), deep, nodes)]++
		}
	}
	for _, e := range []api.Errno{api.OK, api.ErrArg, api.ErrAlias, api.ErrDeep, api.ErrMany} {
		if told[e] < 1000 {
			t.Errorf("%s was told %d times alone", nameOf(e), told[e])
		}
	}
}

// TestGreaterLimits: P1801: a limit's error is told only where it is passed: with greater ones what was told stays.
func TestGreaterLimits(t *testing.T) {
	t.Parallel()
	from := rand.New(rand.NewSource(1801))
	for range 1500 {
		l := grown(from)
		deep, nodes := events.Depth(l), events.Nodes(l)
		most := made(l, api.MaxDepth, api.MaxNodes)
		for depth := range deep + 2 {
			for count := range nodes + 2 {
				got := made(l, depth, count)
				if got != most && (got != "ErrDeep" || depth >= deep) && (got != "ErrMany" || count >= nodes) {
					t.Fatalf("P1801: %v within %d, %d: %s, not %s", l, depth, count, got, most)
				}
			}
		}
	}
}

// TestRight: what is made of events with Tags that may be is graph.Right, once each node has one.
func TestRight(t *testing.T) {
	from := rand.New(rand.NewSource(1802))
	for range 3000 {
		l := grown(from)
		g, e := Graph(l, api.MaxDepth, api.MaxNodes)
		for at := range g.Nodes {
			if g.Nodes[at].Tag == "" {
				g.Nodes[at].Tag = "t"
			}
		}
		if e == api.OK && !graph.Right(g) {
			t.Fatalf("P1801: %v makes %s", l, show(g))
		}
	}
}

// TestManyAliases: P1801: aliases may be as many as they like, and no limit holds for them.
func TestManyAliases(t *testing.T) {
	const many = 1 << 20
	star := slices.Concat(row("+ ( &x :a"), slices.Repeat(row("*x"), many), row(") -"))
	g, e := Graph(star, 1, 2)
	if e != api.OK || len(g.Nodes) != 2 || !slices.Equal(g.Nodes[0].Kids, slices.Repeat([]int{1}, many+1)) {
		t.Errorf("P1801: many aliases: %d nodes, %v", len(g.Nodes), e)
	}
	round := slices.Concat(row("+ &x <"), slices.Repeat(row("*x *x"), many), row("> -"))
	g, e = Graph(round, 1, 1)
	if e != api.OK || len(g.Nodes) != 1 || !slices.Equal(g.Nodes[0].Kids, make([]int, 2*many)) {
		t.Errorf("P1801: many aliases of a mapping in it: %d nodes, %v", len(g.Nodes), e)
	}
	star[len(star)-3].Anchor = "y"
	if got := made(star, 1, 2); got != "ErrAlias" {
		t.Errorf("P1801: a wrong alias behind many: %.60s", got)
	}
	star[len(star)-2] = api.Event{Kind: api.EMapEnd}
	if got := made(star, 1, 2); got != "ErrArg" {
		t.Errorf("P1801: a wrong end behind many: %.60s", got)
	}
}

// TestManyAnchors: P1801: as many Anchors as there may be nodes, in one document and in many.
func TestManyAnchors(t *testing.T) {
	const half = api.MaxNodes / 2
	l := row("+ (")
	for at := range half - 1 {
		l = append(l, api.Event{Kind: api.EScalar, Style: api.SPlain, Anchor: "n" + strconv.Itoa(at)})
	}
	for at := range half - 1 {
		l = append(l, api.Event{Kind: api.EAlias, Anchor: "n" + strconv.Itoa(half-2-at)})
	}
	l = append(l, row(") -")...)
	first := len(l)
	for at := range half {
		l = append(l, row("+ &n"+strconv.Itoa(at)+" :a -")...)
	}
	g, e := Graph(l, 1, api.MaxNodes)
	if e != api.OK || len(g.Nodes) != api.MaxNodes || len(g.Roots) != half+1 || g.Roots[half] != api.MaxNodes-1 {
		t.Fatalf("P1801: many Anchors: %d nodes, %d roots, %v", len(g.Nodes), len(g.Roots), e)
	}
	for at, kid := range g.Nodes[0].Kids {
		if want := min(at+1, 2*half-2-at); kid != want {
			t.Fatalf("P1801: Kid %d of many is %d, not %d", at, kid, want)
		}
	}
	l[first+1] = api.Event{Kind: api.EAlias, Anchor: "n5"}
	if got := made(l, 1, api.MaxNodes); got != "ErrAlias" {
		t.Errorf("P1801: an alias of one of many Anchors of another document: %.60s", got)
	}
	again := slices.Concat(row("+ ("), slices.Repeat(row("&x :a *x"), api.MaxNodes-1), row(") -"))
	g, e = Graph(again, 1, api.MaxNodes)
	if e != api.OK || len(g.Nodes) != api.MaxNodes {
		t.Fatalf("P1801: one Anchor given often: %d nodes, %v", len(g.Nodes), e)
	}
	for at, kid := range g.Nodes[0].Kids {
		if kid != at/2+1 {
			t.Fatalf("P1801: Kid %d behind an Anchor given often: %d", at, kid)
		}
	}
}

// TestGreat: P1801: rows far beyond the limits end with their error, however deep and long they are.
func TestGreat(t *testing.T) {
	const many = 1 << 18
	for _, x := range []struct {
		begin, end string
		want       string
	}{{"(", ")", "ErrDeep"}, {"<", ":a >", "ErrDeep"}, {"< :a", ">", "ErrDeep"}, {"( ) ", "", "ErrMany"}, {":a", "", "ErrMany"}, {"&x :a *x", "", "ErrMany"}, {"*y", ":a", "ErrAlias"}} {
		l := slices.Concat(row("+ ("), slices.Repeat(row(x.begin), many), row("&x :z"), slices.Repeat(row(x.end), many), row(") -"))
		for _, limit := range []int{1 << 30, 200, 20000} {
			if got := made(l, max(limit, 1), limit+20000); got != x.want {
				t.Errorf("P1801: many of %s within %d: %.60s", x.begin, limit, got)
			}
		}
		if got := made(l[:len(l)-1], 1<<30, 1<<30); got != "ErrArg" {
			t.Errorf("P1801: many of %s without an end: %.60s", x.begin, got)
		}
	}
	docs := slices.Repeat(row("+ &x ( *x ) -"), many)
	if got := made(docs, 1, 1<<30); got != "ErrMany" {
		t.Errorf("P1801: many documents: %.60s", got)
	}
	g, e := Graph(docs[:5*api.MaxNodes], 1, 1<<30)
	if e != api.OK || len(g.Nodes) != api.MaxNodes || len(g.Roots) != api.MaxNodes {
		t.Fatalf("P1801: as many documents as may be: %d nodes, %v", len(g.Nodes), e)
	}
	for at, x := range g.Nodes {
		if g.Roots[at] != at || !slices.Equal(x.Kids, []int{at}) {
			t.Fatalf("P1801: document %d of many: root %d, %v", at, g.Roots[at], x)
		}
	}
}
