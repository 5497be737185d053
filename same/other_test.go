package same

import (
	"math/rand"
	"slices"
	"strconv"
	"testing"

	"marginalia/api"
	"marginalia/graph"
	"marginalia/schema"
)

// otherAlike tells whether two nodes do not differ by themselves, their Kids left out, word by word as P2002 says it.
func otherAlike(x, z api.Node) bool {
	if x.Kind != z.Kind || x.Tag != z.Tag || len(x.Kids) != len(z.Kids) {
		return false
	}
	if x.Kind != api.NScalar {
		return true
	}
	v, e := schema.Value(x.Tag, x.Text)
	w, f := schema.Value(z.Tag, z.Text)
	if e == api.OK && f == api.OK {
		return Values(v, w)
	}
	return x.Text == z.Text
}

// otherEqual is Equal of all pairs: all are taken for equal, until none is left that differs.
func otherEqual(g api.Graph) [][]bool {
	equal := make([][]bool, len(g.Nodes))
	for a, x := range g.Nodes {
		equal[a] = make([]bool, len(g.Nodes))
		for b, z := range g.Nodes {
			equal[a][b] = otherAlike(x, z)
		}
	}
	for again := true; again; {
		again = false
		for a, x := range g.Nodes {
			for b, z := range g.Nodes {
				for at := range x.Kids {
					if equal[a][b] && !equal[x.Kids[at]][z.Kids[at]] {
						equal[a][b], again = false, true
					}
				}
			}
		}
	}
	return equal
}

// otherTwice is Twice by all pairs of keys, -1 if there is none.
func otherTwice(g api.Graph, equal [][]bool) int {
	for node, x := range g.Nodes {
		if x.Kind != api.NMap {
			continue
		}
		for at := 0; at < len(x.Kids); at += 2 {
			for behind := at + 2; behind < len(x.Kids); behind += 2 {
				if equal[x.Kids[at]][x.Kids[behind]] {
					return node
				}
			}
		}
	}
	return -1
}

// checkOther: P2002: of all pairs of nodes the same is told as the second way tells, and of all mappings. It answers how many pairs of different nodes are equal, and whether there is such a mapping.
func checkOther(t *testing.T, g api.Graph) (count int, twice bool) {
	t.Helper()
	if !graph.Right(g) {
		t.Fatalf("%v is not Right", g)
	}
	equal := otherEqual(g)
	for a := range g.Nodes {
		for b := range g.Nodes {
			if got := Equal(g, a, b); got != equal[a][b] {
				t.Fatalf("P2002: %v: Equal of %d and %d: %v", g, a, b, got)
			}
			if a != b && equal[a][b] {
				count++
			}
		}
	}
	want := otherTwice(g, equal)
	node, is := Twice(g)
	if is != (want >= 0) || node != max(want, 0) {
		t.Fatalf("P2002: %v: Twice: %d, %v, not %d", g, node, is, want)
	}
	return count, is
}

// kidLists are all lists of at most size numbers below nodes.
func kidLists(nodes, size int) [][]int {
	lists := [][]int{nil}
	for from := 0; size > 0; size-- {
		to := len(lists)
		for _, list := range lists[from:to] {
			for kid := range nodes {
				lists = append(lists, append(slices.Clone(list), kid))
			}
		}
		from = to
	}
	return lists
}

// shapes are all nodes with at most size Kids below nodes, of few Tags.
func shapes(nodes, size int) []api.Node {
	list := []api.Node{{Kind: api.NScalar, Tag: y + "int", Text: "1"}, {Kind: api.NScalar, Tag: y + "int", Text: "01"}}
	for _, kids := range kidLists(nodes, size) {
		list = append(list, api.Node{Kind: api.NSeq, Tag: "t", Kids: kids})
		if len(kids)%2 == 0 {
			list = append(list, api.Node{Kind: api.NMap, Tag: "t", Kids: kids})
		}
	}
	return list
}

// TestAllSmall: P2002: all small graphs.
func TestAllSmall(t *testing.T) {
	t.Parallel()
	for _, x := range []struct{ nodes, kids int }{{1, 6}, {2, 4}, {3, 2}, {4, 1}} {
		list := shapes(x.nodes, x.kids)
		g := api.Graph{Nodes: make([]api.Node, x.nodes)}
		var each func(int)
		each = func(at int) {
			if at == x.nodes {
				checkOther(t, g)
				return
			}
			for _, node := range list {
				g.Nodes[at] = node
				each(at + 1)
			}
		}
		each(0)
	}
}

// anyScalar is a scalar of few Tags and Texts, so that many are equal and some have no value.
func anyScalar(chance *rand.Rand) api.Node {
	tags := []string{y + "int", y + "float", y + "bool", y + "null", y + "str", "x"}
	texts := []string{"1", "0x1", "01", "1.0", "1e0", "true", "TRUE", "", "~", "a", "0", "-0", ".nan", ".NAN"}
	return api.Node{Kind: api.NScalar, Tag: tags[chance.Intn(len(tags))], Text: texts[chance.Intn(len(texts))], Plain: chance.Intn(2) == 0}
}

// anyGraph is a graph of that many nodes, of which few are scalars and of which each other one has about so many Kids.
func anyGraph(chance *rand.Rand, nodes, kids, tags int) api.Graph {
	g := api.Graph{Nodes: make([]api.Node, nodes)}
	for at := range g.Nodes {
		node := api.Node{Kind: api.NSeq + chance.Intn(2), Tag: "t" + strconv.Itoa(chance.Intn(tags))}
		if chance.Intn(4) == 0 {
			node = anyScalar(chance)
		} else {
			for range 2 * (chance.Intn(kids) + chance.Intn(2)) {
				node.Kids = append(node.Kids, chance.Intn(nodes))
			}
		}
		g.Nodes[at] = node
	}
	return g
}

// doubled is g and, behind it, g once more, each Kid of either turned to the same node of either by chance: nodes at the same place of both are equal.
func doubled(chance *rand.Rand, g api.Graph) api.Graph {
	size := len(g.Nodes)
	h := api.Graph{Nodes: slices.Concat(g.Nodes, g.Nodes)}
	for at := range h.Nodes {
		h.Nodes[at].Kids = slices.Clone(h.Nodes[at].Kids)
		for place := range h.Nodes[at].Kids {
			h.Nodes[at].Kids[place] += size * chance.Intn(2)
		}
	}
	return h
}

// TestAny: P2002: greater graphs, of few Tags and Texts.
func TestAny(t *testing.T) {
	t.Parallel()
	chance := rand.New(rand.NewSource(2002))
	var pairs, twice int
	for round := range 4000 {
		count, is := checkOther(t, anyGraph(chance, 1+chance.Intn(12), 1+round%2, 1+round%3))
		pairs += count
		if is {
			twice++
		}
	}
	if pairs < 1000 || twice < 100 {
		t.Errorf("too few: %d pairs, %d with keys twice", pairs, twice)
	}
}

// TestDoubled: P2002: graphs that stand twice, interwoven: what stands at the same place is equal, and one thing that is turned makes differ just what comes to it.
func TestDoubled(t *testing.T) {
	t.Parallel()
	chance := rand.New(rand.NewSource(20))
	for round := range 800 {
		size := 1 + chance.Intn(8)
		h := doubled(chance, anyGraph(chance, size, 1+round%2, 1))
		for at := range size {
			checkEqual(t, "doubled", h, at, at+size, true)
		}
		checkOther(t, h)
		h.Nodes[chance.Intn(2*size)].Tag = "other"
		checkOther(t, h)
	}
}

// TestLong: P2002: chains and rings of all small lengths, of which one node or two may have another Tag.
func TestLong(t *testing.T) {
	t.Parallel()
	chance := rand.New(rand.NewSource(21))
	for first := range 9 {
		for second := range 9 {
			for range 20 {
				g := api.Graph{Nodes: slices.Repeat([]api.Node{{Kind: api.NSeq, Tag: "t"}}, first+second+2)}
				strung(g, 0, first, chance.Intn(first+2))
				strung(g, first+1, second, chance.Intn(second+2))
				for range chance.Intn(3) {
					g.Nodes[chance.Intn(len(g.Nodes))].Tag = "u"
				}
				checkOther(t, g)
			}
		}
	}
}

// strung makes the nodes from one on, and so many behind it, a chain whose end goes back to the node that far behind the first, or nowhere if that is behind the end.
func strung(g api.Graph, from, more, back int) {
	for at := range more {
		g.Nodes[from+at].Kids = []int{from + at + 1}
	}
	if back <= more {
		g.Nodes[from+more].Kids = []int{from + back}
	}
}

// many is a graph of as many sequences as there may be, of each of which kids tells the Kids.
func many(kids func(at int) []int) api.Graph {
	g := api.Graph{Nodes: make([]api.Node, api.MaxNodes)}
	for at := range g.Nodes {
		g.Nodes[at] = api.Node{Kind: api.NSeq, Tag: "t", Kids: kids(at)}
	}
	return g
}

// TestGreatRounds: P2002: chains and rounds as great as they may be.
func TestGreatRounds(t *testing.T) {
	const most = api.MaxNodes
	checkEqual(t, "many alone", many(func(at int) []int { return nil }), 0, most-1, true)
	chain := many(func(at int) []int { return []int{at + 1}[:min(1, most-1-at)] })
	checkEqual(t, "a chain", chain, 0, 1, false)
	checkEqual(t, "a chain", chain, most/2, most-1, false)
	checkEqual(t, "a chain", chain, most-1, most-1, true)
	ring := many(func(at int) []int { return []int{(at + 1) % most} })
	checkEqual(t, "a ring", ring, 0, most-1, true)
	ring.Nodes[most/2].Tag = "u"
	checkEqual(t, "a ring with a knot", ring, 0, most-1, false)
	checkEqual(t, "a ring with a knot", ring, most/2+1, most/2+2, false)
	ring.Nodes[0].Tag = "u"
	checkEqual(t, "a ring with two knots", ring, 7, most/2+7, true)
	checkEqual(t, "a ring with two knots", ring, 7, most/2+8, false)
	// Two rings whose lengths have no number in common: their nodes stand side by side in 99,990,000 ways.
	const first = 10001
	rings := many(func(at int) []int {
		switch at {
		case first - 1:
			return []int{0}
		case most - 1:
			return []int{first}
		}
		return []int{at + 1}
	})
	checkEqual(t, "two rings", rings, 0, first, true)
	checkEqual(t, "two rings", rings, 77, most-3, true)
	rings.Nodes[5].Tag = "u"
	checkEqual(t, "two rings, one with a knot", rings, 7, first+7, false)
	rings.Nodes[first+5].Tag = "u"
	checkEqual(t, "two rings, each with a knot", rings, 5, first+5, false)
}

// TestGreatShared: P2002: graphs whose Kids are shared so often that no way through them could be gone one by one.
func TestGreatShared(t *testing.T) {
	const half = api.MaxNodes/4 - 1 // of two Kids each
	var g api.Graph
	for at := range half {
		g.Nodes = append(g.Nodes, api.Node{Kind: api.NSeq, Tag: "t", Kids: []int{at + 1, at + 1}})
	}
	g.Nodes = append(g.Nodes, api.Node{Kind: api.NScalar, Tag: y + "int", Text: "12"})
	for at := range half - 1 {
		g.Nodes = append(g.Nodes, api.Node{Kind: api.NSeq, Tag: "t", Kids: []int{half + at + 2, half + at + 2}})
	}
	last := len(g.Nodes)
	g.Nodes = append(g.Nodes, api.Node{Kind: api.NScalar, Tag: y + "int", Text: "0xC"})
	checkEqual(t, "two ladders", g, 1, half+1, true)
	checkEqual(t, "two ladders", g, 0, half+1, false)
	checkEqual(t, "two ladders", g, half, last, true)
	g.Nodes[last].Text = "0xD"
	checkEqual(t, "two ladders with other ends", g, 1, half+1, false)
	checkEqual(t, "two ladders with other ends", g, half-1, last-1, false)
	g.Nodes[last] = api.Node{Kind: api.NSeq, Tag: "t", Kids: []int{1, half + 1}}
	g.Nodes[half] = api.Node{Kind: api.NSeq, Tag: "t", Kids: []int{half + 1, 0}}
	checkEqual(t, "two ladders that go round", g, 1, half+1, true)
	checkEqual(t, "two ladders that go round", g, 0, last, true)
}

// TestGreatWide: P2002: collections with many Kids that all differ far away.
func TestGreatWide(t *testing.T) {
	const size = 6000
	g := api.Graph{Nodes: []api.Node{{Kind: api.NSeq, Tag: "t"}, {Kind: api.NSeq, Tag: "t"}}}
	for at := range size {
		g.Nodes[0].Kids = append(g.Nodes[0].Kids, at+2)
		g.Nodes[1].Kids = append(g.Nodes[1].Kids, at+2)
		g.Nodes = append(g.Nodes, api.Node{Kind: api.NSeq, Tag: "t", Kids: []int{at + 3}[:min(1, size-1-at)]})
	}
	checkEqual(t, "wide", g, 0, 1, true)
	for _, at := range []int{0, 1, size / 2, size - 1} {
		kept := g.Nodes[1].Kids[at]
		g.Nodes[1].Kids[at] = 2 + (at+1)%size
		checkEqual(t, "wide, other at "+strconv.Itoa(at), g, 0, 1, false)
		g.Nodes[1].Kids[at] = kept
	}
}

// TestGreatKeys: P2002: mappings with many keys.
func TestGreatKeys(t *testing.T) {
	const keys, long = 5000, 9000
	// Scalars, and sequences of a chain that differ by nothing but how far they are from its end.
	for _, chain := range []bool{false, true} {
		g := api.Graph{Nodes: []api.Node{{Kind: api.NMap, Tag: "t"}}}
		for at := range keys {
			g.Nodes[0].Kids = append(g.Nodes[0].Kids, at+1, 1)
		}
		for at := range long {
			node := api.Node{Kind: api.NScalar, Tag: y + "int", Text: strconv.Itoa(at)}
			if chain {
				node = api.Node{Kind: api.NSeq, Tag: "t", Kids: []int{at + 2}[:min(1, long-1-at)]}
			}
			g.Nodes = append(g.Nodes, node)
		}
		checkTwice(t, "many keys", g, -1)
		if chain {
			g.Nodes[long].Kids = []int{long}
		} else {
			g.Nodes[keys-1].Text = "0x7"
		}
		checkTwice(t, "many keys, two of them equal", g, 0)
	}
	// Many mappings of two keys, of which the last alone has equal ones.
	var g api.Graph
	for range 4000 {
		g.Nodes = append(g.Nodes, api.Node{Kind: api.NMap, Tag: "t", Kids: []int{4000, 4001, 4001, 4000}})
	}
	g.Nodes = append(g.Nodes, made("i1|i2|i0x2").Nodes...)
	checkTwice(t, "many mappings", g, -1)
	g.Nodes[3999].Kids = []int{4001, 4000, 4002, 4000}
	checkTwice(t, "many mappings", g, 3999)
	// As many Kids as there may be.
	g = api.Graph{Nodes: []api.Node{{Kind: api.NMap, Tag: "t"}}}
	for at := range api.MaxNodes / 2 {
		g.Nodes[0].Kids = append(g.Nodes[0].Kids, at+1, 0)
		g.Nodes = append(g.Nodes, api.Node{Kind: api.NScalar, Tag: "t", Text: strconv.Itoa(at)})
	}
	checkTwice(t, "as many keys as may be", g, -1)
	g.Nodes[api.MaxNodes/2].Text = "0"
	checkTwice(t, "as many keys as may be, the first and the last equal", g, 0)
}
