package graph

import (
	"math/rand"
	"slices"
	"strconv"
	"strings"
	"testing"

	"marginalia/api"
)

// samples are graphs, right and wrong ones, on which the promises of memory are tried.
func samples() []api.Graph {
	var list []api.Graph
	for _, s := range []string{"", "a", "[0", "[1 2/[3/[3/a", "{1 2/{0 3/{3 1/a", "[1/a/[0 1 2", "[1", "a0", "{0", "[3 2 1/a/a/a", "?"} {
		g := made(s)
		list = append(list, g, rooted(g, 0), rooted(g, 0, 0, 0), rooted(g, 7))
	}
	chance := rand.New(rand.NewSource(1702))
	for range 10 {
		list = append(list, anyGraph(chance, 30, 2))
	}
	return list
}

// told is all that is told of g, from each root and from none.
func told(g api.Graph) string {
	var b strings.Builder
	b.WriteString(strconv.FormatBool(Right(g)))
	for root := -1; root <= len(g.Nodes); root++ {
		b.WriteString("; " + strconv.FormatBool(Cyclic(g, root)))
		for _, x := range slices.Concat(Reach(g, root), []int{-1}, Uses(g, root)) {
			b.WriteString(" " + strconv.Itoa(x))
		}
	}
	return b.String()
}

// roomy is g with room behind each of its lists and ahead of it, that holds what would be told if it were looked at.
func roomy(g api.Graph, kid int) (whole api.Graph, inner api.Graph) {
	pad := func(list []int) []int {
		return append(append([]int{kid, kid}, list...), kid, kid, kid)
	}
	more := api.Node{Kind: api.NSeq, Tag: "t", Kids: []int{kid}}
	whole.Nodes = append(whole.Nodes, more)
	for _, x := range g.Nodes {
		x.Kids = pad(x.Kids)[2 : 2+len(x.Kids)]
		whole.Nodes = append(whole.Nodes, x)
	}
	whole.Nodes = append(whole.Nodes, more, more)
	whole.Roots = pad(g.Roots)
	inner.Nodes = whole.Nodes[1 : 1+len(g.Nodes)]
	inner.Roots = whole.Roots[2 : 2+len(g.Roots)]
	return whole, inner
}

// copied is a copy of g with all the room behind its lists.
func copied(g api.Graph) api.Graph {
	g = api.Graph{Nodes: slices.Clone(g.Nodes[:cap(g.Nodes)]), Roots: slices.Clone(g.Roots[:cap(g.Roots)])}
	for at, x := range g.Nodes {
		g.Nodes[at].Kids = slices.Clone(x.Kids[:cap(x.Kids)])
	}
	return g
}

// sameGraph tells whether two graphs are the same, number by number.
func sameGraph(g, h api.Graph) bool {
	return slices.Equal(g.Roots, h.Roots) && slices.EqualFunc(g.Nodes, h.Nodes, func(x, y api.Node) bool {
		return x.Kind == y.Kind && x.Tag == y.Tag && x.Text == y.Text && x.Plain == y.Plain && slices.Equal(x.Kids, y.Kids)
	})
}

// TestUnchanged: P1702: what is handed in stays as it is, the room around it too, and that room is not looked at.
func TestUnchanged(t *testing.T) {
	for _, g := range samples() {
		want := told(g)
		for _, kid := range []int{0, 1, -1, 99} {
			whole, inner := roomy(g, kid)
			before := copied(whole)
			if got := told(inner); got != want {
				t.Errorf("P1702: %v within more of %d: %s, not %s", g, kid, got, want)
			}
			if !sameGraph(copied(whole), before) {
				t.Fatalf("P1702: %v within more of %d was changed", g, kid)
			}
		}
	}
}

// spoil writes over all of a list, its room too.
func spoil(list []int) {
	list = list[:cap(list)]
	for at := range list {
		list[at] = -77
	}
}

// TestFreshMemory: P1702: what is answered shares no memory with what is handed in, nor with another answer; nothing that is handed in is kept.
func TestFreshMemory(t *testing.T) {
	for _, g := range samples() {
		want, before := told(g), copied(g)
		for root := range g.Nodes {
			reach, uses := Reach(g, root), Uses(g, root)
			keptReach, keptUses := slices.Clone(reach), slices.Clone(uses)
			spoil(Reach(g, root))
			spoil(Uses(g, root))
			if !slices.Equal(reach, keptReach) || !slices.Equal(uses, keptUses) {
				t.Errorf("P1702: two answers of %v from %d share memory", g, root)
			}
			spoil(reach)
			if !slices.Equal(uses, keptUses) {
				t.Errorf("P1702: Reach and Uses of %v from %d share memory", g, root)
			}
			spoil(uses)
			if !sameGraph(copied(g), before) || told(g) != want {
				t.Fatalf("P1702: what was answered of %v from %d is part of it", g, root)
			}
		}
	}
	for _, g := range samples() {
		h := copied(g)
		h.Nodes, h.Roots = h.Nodes[:len(g.Nodes)], h.Roots[:len(g.Roots)]
		for root := range g.Nodes {
			reach, uses := Reach(h, root), Uses(h, root)
			keptReach, keptUses := slices.Clone(reach), slices.Clone(uses)
			for _, x := range h.Nodes {
				spoil(x.Kids)
			}
			spoil(h.Roots)
			if !slices.Equal(reach, keptReach) || !slices.Equal(uses, keptUses) {
				t.Errorf("P1702: an answer of %v from %d changed with what was handed in", g, root)
			}
			h = copied(g)
		}
	}
}

// TestTwice: P1702: the same call tells the same, whatever was asked between.
func TestTwice(t *testing.T) {
	list := samples()
	for _, g := range list {
		want := told(g)
		for _, x := range list {
			told(x)
			if again := told(g); again != want {
				t.Fatalf("P1702: %v: %s, then %s", g, want, again)
			}
		}
	}
}

// TestTurned: P1702: a graph that was turned between two calls is told as it is then.
func TestTurned(t *testing.T) {
	g := made("[1/[2/a")
	checkFrom(t, "a chain", g, 0, []int{0, 1, 2}, false, []int{1, 1, 1})
	g.Nodes[1].Kids[0] = 0
	checkFrom(t, "a ring", g, 0, []int{0, 1}, true, []int{2, 1, 0})
	g.Nodes[1].Kids[0] = 3
	checkRight(t, "a Kid that is none", g, false)
	g.Nodes[1].Kids = nil
	checkFrom(t, "a shorter chain", g, 0, []int{0, 1}, false, []int{1, 1, 0})
	g.Nodes[2].Tag = "!"
	checkRight(t, "a Tag that may not be", g, false)
}

// TestBeside: P1702: many ask at the same time, and each is told the same as one alone.
func TestBeside(t *testing.T) {
	for _, g := range samples() {
		want := told(g)
		done := make(chan string)
		for range 6 {
			go func() { done <- told(g) }()
		}
		for range 6 {
			if got := <-done; got != want {
				t.Errorf("P1702: %v side by side: %s, not %s", g, got, want)
			}
		}
	}
}

// TestNilAndEmpty: P1701, P1702: nil and an empty list mean the same, in each place.
func TestNilAndEmpty(t *testing.T) {
	room := []int{9, 9, 9}
	for _, none := range [][]int{nil, {}, make([]int, 0, 4), room[:0], room[3:]} {
		for _, nodes := range [][]api.Node{nil, {}, made("?/?").Nodes[:0], made("?/?").Nodes[2:]} {
			g := api.Graph{Nodes: nodes, Roots: none}
			checkRight(t, "nothing", g, true)
			checkNone(t, "nothing", g, 0)
			checkRight(t, "no nodes and a root", rooted(g, 0), false)
		}
		for kind := api.NScalar; kind <= api.NMap; kind++ {
			g := api.Graph{Nodes: []api.Node{{Kind: kind, Tag: "t", Kids: none}}, Roots: none}
			checkFrom(t, "a node without Kids", g, 0, []int{0}, false, []int{1})
			g.Nodes = append(g.Nodes, api.Node{Kind: api.NSeq, Tag: "t", Kids: []int{0, 1}})
			checkFrom(t, "a node without Kids", g, 1, []int{1, 0}, true, []int{1, 2})
		}
	}
	if !slices.Equal(room, []int{9, 9, 9}) {
		t.Errorf("P1702: the room behind an empty list: %v", room)
	}
}

// TestSharedKids: P1702: nodes may have one list of Kids in common, and the roots, too.
func TestSharedKids(t *testing.T) {
	list := []int{1, 2}
	node := api.Node{Kind: api.NSeq, Tag: "t", Kids: list}
	g := api.Graph{Nodes: []api.Node{node, node, node}, Roots: list}
	checkFrom(t, "one list of Kids", g, 0, []int{0, 1, 2}, true, []int{1, 3, 3})
	if !slices.Equal(list, []int{1, 2}) {
		t.Errorf("P1702: the list that is shared: %v", list)
	}
}
