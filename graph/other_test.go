package graph

import (
	"math/rand"
	"slices"
	"strconv"
	"testing"

	"marginalia/api"
)

// otherReach is Reach by calls within calls.
func otherReach(g api.Graph, root int) []int {
	var list []int
	var meet func(int)
	meet = func(node int) {
		if slices.Contains(list, node) {
			return
		}
		list = append(list, node)
		for _, kid := range g.Nodes[node].Kids {
			meet(kid)
		}
	}
	meet(root)
	return list
}

// otherCyclic is Cyclic by what each node reaches: one that a Kid of it leads back to.
func otherCyclic(g api.Graph, root int) bool {
	for _, node := range otherReach(g, root) {
		for _, kid := range g.Nodes[node].Kids {
			if slices.Contains(otherReach(g, kid), node) {
				return true
			}
		}
	}
	return false
}

// otherUses is Uses, counted node by node.
func otherUses(g api.Graph, root int) []int {
	list := make([]int, len(g.Nodes))
	list[root]++
	reached := otherReach(g, root)
	for node, x := range g.Nodes {
		if !slices.Contains(reached, node) {
			continue
		}
		for _, kid := range x.Kids {
			list[kid]++
		}
	}
	return list
}

// checkOther: P1701: from each root the same is told as the second way tells.
func checkOther(t *testing.T, what string, g api.Graph) {
	t.Helper()
	for root := range g.Nodes {
		checkFrom(t, what, g, root, otherReach(g, root), otherCyclic(g, root), otherUses(g, root))
	}
}

// kidLists are all lists of at most size numbers below nodes.
func kidLists(nodes, size int) [][]int {
	lists := [][]int{nil}
	for from := 0; size > 0; size-- {
		to := len(lists)
		for _, list := range lists[from:to] {
			for kid := range nodes {
				lists = append(lists, append(slices.Clone(list), kid))
			}
		}
		from = to
	}
	return lists
}

// TestAllSmall: P1701: all small graphs.
func TestAllSmall(t *testing.T) {
	t.Parallel()
	for _, x := range []struct{ nodes, kids int }{{1, 4}, {2, 4}, {3, 2}, {4, 1}, {5, 1}} {
		lists := kidLists(x.nodes, x.kids)
		g := api.Graph{Nodes: slices.Repeat([]api.Node{{Kind: api.NSeq, Tag: "t"}}, x.nodes)}
		var each func(int)
		each = func(at int) {
			if at == x.nodes {
				checkOther(t, "a small graph", g)
				return
			}
			for _, list := range lists {
				g.Nodes[at].Kids = list
				if t.Failed() {
					return
				}
				each(at + 1)
			}
		}
		each(0)
	}
}

// anyGraph is a graph of that many nodes, with about so many Kids a node: some of them scalars, some mappings.
func anyGraph(chance *rand.Rand, nodes, kids int) api.Graph {
	g := api.Graph{Nodes: make([]api.Node, nodes)}
	for at := range g.Nodes {
		node := api.Node{Kind: 1 + chance.Intn(3), Tag: "t" + strconv.Itoa(chance.Intn(3))}
		var size int
		switch node.Kind {
		case api.NScalar:
			node.Text, node.Plain = strconv.Itoa(at), at%2 == 0
		case api.NSeq:
			size = chance.Intn(2*kids + 1)
		case api.NMap:
			size = 2 * chance.Intn(kids+1)
		}
		for range size {
			node.Kids = append(node.Kids, chance.Intn(nodes))
		}
		g.Nodes[at] = node
	}
	for range chance.Intn(4) {
		g.Roots = append(g.Roots, chance.Intn(nodes))
	}
	return g
}

// TestAny: P1701: greater graphs, some that go round and some whose Kids all have greater numbers.
func TestAny(t *testing.T) {
	t.Parallel()
	chance := rand.New(rand.NewSource(17))
	for round := range 1500 {
		g := anyGraph(chance, 1+chance.Intn(20), 1+round%3)
		checkOther(t, "any graph", g)
		last := len(g.Nodes) - 1
		g.Nodes[last] = api.Node{Kind: api.NScalar, Tag: "t"}
		for at := range last {
			for kid := range g.Nodes[at].Kids {
				g.Nodes[at].Kids[kid] = at + 1 + chance.Intn(last-at)
			}
		}
		checkOther(t, "a graph that goes on", g)
		for root := range g.Nodes {
			if Cyclic(g, root) {
				t.Errorf("P1701: %v goes round from %d", g, root)
			}
		}
	}
}

// many is a graph of as many sequences as there may be, of each of which kids tells the Kids.
func many(kids func(at int) []int) api.Graph {
	g := api.Graph{Nodes: make([]api.Node, api.MaxNodes)}
	for at := range g.Nodes {
		g.Nodes[at] = api.Node{Kind: api.NSeq, Tag: "t", Kids: kids(at)}
	}
	return g
}

// upTo are the numbers from one to another, the latter left out.
func upTo(from, to int) []int {
	var list []int
	for x := from; x < to; x++ {
		list = append(list, x)
	}
	return list
}

// TestGreat: P1701: graphs as great as they may be: chains, rings, one node with all the Kids.
func TestGreat(t *testing.T) {
	const most = api.MaxNodes
	all, ones := upTo(0, most), slices.Repeat([]int{1}, most)

	chain := many(func(at int) []int { return upTo(at+1, min(at+2, most)) })
	checkFrom(t, "a chain", chain, 0, all, false, ones)
	checkFrom(t, "a chain's end", chain, most-1, []int{most - 1}, false, append(make([]int, most-1), 1))
	half := append(make([]int, most/2), slices.Repeat([]int{1}, most/2)...)
	checkFrom(t, "a chain's middle", chain, most/2, upTo(most/2, most), false, half)

	ring := many(func(at int) []int { return []int{(at + 1) % most} })
	checkFrom(t, "a ring", ring, 0, all, true, append([]int{2}, ones[1:]...))
	checkFrom(t, "a ring from its end", ring, most-1, append([]int{most - 1}, upTo(0, most-1)...), true, append(slices.Clone(ones[1:]), 2))

	tail := many(func(at int) []int { return []int{min(at+1, most-1)} })
	checkFrom(t, "a round at a chain's end", tail, 0, all, true, append(slices.Clone(ones[1:]), 2))

	back := many(func(at int) []int { return []int{max(at-1, 0)} })
	down := upTo(0, most)
	slices.Reverse(down)
	checkFrom(t, "a chain back", back, most-1, down, true, append([]int{2}, ones[1:]...))

	star := many(func(at int) []int { return nil })
	star.Nodes[0].Kids = upTo(1, most)
	checkFrom(t, "one with all the Kids", star, 0, all, false, ones)
	star.Nodes[0].Kids = append(upTo(1, most), 1)
	checkFrom(t, "one with one Kid twice", star, 0, all, false, append([]int{1, 2}, ones[2:]...))
	star.Nodes[0].Kids = make([]int, most)
	checkFrom(t, "one that is all its Kids", star, 0, []int{0}, true, append([]int{most + 1}, make([]int, most-1)...))
	star.Nodes[0].Kids = slices.Repeat([]int{most - 1}, most)
	checkFrom(t, "one with one Kid often", star, 0, []int{0, most - 1}, false, append(append([]int{1}, make([]int, most-2)...), most))

	tree := many(func(at int) []int { return upTo(min(2*at+1, most), min(2*at+3, most)) })
	if list := Reach(tree, 0); len(list) != most || !slices.Equal(list[:4], []int{0, 1, 3, 7}) || Cyclic(tree, 0) || !slices.Equal(Uses(tree, 0), ones) {
		t.Errorf("P1701: a great tree: %d nodes, then %v", len(list), list[:min(len(list), 4)])
	}
}

// TestLadder: P1701: a graph with more ways than could be gone one by one.
func TestLadder(t *testing.T) {
	const size = api.MaxNodes / 2
	g := api.Graph{}
	want := []int{1}
	for at := range size {
		g.Nodes = append(g.Nodes, api.Node{Kind: api.NMap, Tag: "t", Kids: []int{at + 1, at + 1}})
		want = append(want, 2)
	}
	g.Nodes = append(g.Nodes, api.Node{Kind: api.NScalar, Tag: "t"})
	checkFrom(t, "a ladder", g, 0, upTo(0, size+1), false, want)
}
