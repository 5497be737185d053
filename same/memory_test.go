package same

import (
	"math/rand"
	"slices"
	"strconv"
	"strings"
	"testing"

	"marginalia/api"
)

// samples are graphs, right and wrong ones, on which the promises of memory are tried.
func samples() []api.Graph {
	var list []api.Graph
	for _, s := range []string{"", "sa", "i1|i0x1|f1", "[0|[0", "[1|[0|{0 1 1 0", "{1 1 2 2|i1|i01", "{1 2 3 2|[1|sa|[3", "ix|ix|bx|sx", "[7", "{0|sa"} {
		g := made(s)
		list = append(list, g, api.Graph{Nodes: g.Nodes, Roots: []int{0, 0}}, api.Graph{Nodes: g.Nodes, Roots: []int{9}})
	}
	for _, g := range wrongs() {
		if len(g.Nodes) < 10 && len(g.Roots) < 10 && len(g.Nodes[3].Kids) < 10 && len(g.Nodes[4].Text) < 10 {
			list = append(list, g)
		}
	}
	chance := rand.New(rand.NewSource(2003))
	for range 20 {
		g := anyGraph(chance, 10, 2, 1)
		list = append(list, g, doubled(chance, g))
	}
	return list
}

// told is all that is told of g.
func told(g api.Graph) string {
	var b strings.Builder
	node, is := Twice(g)
	b.WriteString(strconv.Itoa(node) + " " + strconv.FormatBool(is))
	for from := -1; from <= len(g.Nodes); from++ {
		b.WriteString("; ")
		for to := -1; to <= len(g.Nodes); to++ {
			b.WriteString(strconv.FormatBool(Equal(g, from, to))[:1])
		}
	}
	return b.String()
}

// roomy is g with room behind each of its lists and ahead of it, that holds what would be told if it were looked at.
func roomy(g api.Graph, kid int) (whole api.Graph, inner api.Graph) {
	pad := func(list []int) []int {
		return append(append([]int{kid, kid}, list...), kid, kid, kid)
	}
	more := api.Node{Kind: api.NMap, Tag: "t", Kids: []int{kid, kid, kid, kid}}
	whole.Nodes = append(whole.Nodes, more)
	for _, x := range g.Nodes {
		x.Kids = pad(x.Kids)[2 : 2+len(x.Kids)]
		whole.Nodes = append(whole.Nodes, x)
	}
	whole.Nodes = append(whole.Nodes, more, more)
	whole.Roots = pad(g.Roots)
	inner.Nodes = whole.Nodes[1 : 1+len(g.Nodes)]
	inner.Roots = whole.Roots[2 : 2+len(g.Roots)]
	return whole, inner
}

// copied is a copy of g with all the room behind its lists.
func copied(g api.Graph) api.Graph {
	g = api.Graph{Nodes: slices.Clone(g.Nodes[:cap(g.Nodes)]), Roots: slices.Clone(g.Roots[:cap(g.Roots)])}
	for at, x := range g.Nodes {
		g.Nodes[at].Kids = slices.Clone(x.Kids[:cap(x.Kids)])
	}
	return g
}

// sameGraph tells whether two graphs are the same, number by number.
func sameGraph(g, h api.Graph) bool {
	return slices.Equal(g.Roots, h.Roots) && slices.EqualFunc(g.Nodes, h.Nodes, func(x, y api.Node) bool {
		return x.Kind == y.Kind && x.Tag == y.Tag && x.Text == y.Text && x.Plain == y.Plain && slices.Equal(x.Kids, y.Kids)
	})
}

// TestUnchanged: P2003: what is handed in stays as it is, the room around it too, and that room is not looked at.
func TestUnchanged(t *testing.T) {
	for _, g := range samples() {
		want := told(g)
		for _, kid := range []int{0, 1, -1, 99} {
			whole, inner := roomy(g, kid)
			before := copied(whole)
			if got := told(inner); got != want {
				t.Errorf("P2003: %v within more of %d: %s, not %s", g, kid, got, want)
			}
			if !sameGraph(copied(whole), before) {
				t.Fatalf("P2003: %v within more of %d was changed", g, kid)
			}
		}
	}
}

// TestAgain: P2003: the same call tells the same, whatever was asked between, and of a copy the same.
func TestAgain(t *testing.T) {
	list := samples()
	for _, g := range list {
		want := told(g)
		for _, x := range list {
			Twice(x)
			Equal(x, 0, len(x.Nodes)-1)
		}
		if again := told(g); again != want {
			t.Fatalf("P2003: %v: %s, then %s", g, want, again)
		}
		h := copied(g)
		h.Nodes, h.Roots = h.Nodes[:len(g.Nodes)], h.Roots[:len(g.Roots)]
		for at := range h.Nodes {
			h.Nodes[at].Kids = h.Nodes[at].Kids[:len(g.Nodes[at].Kids)]
			h.Nodes[at].Text = strings.Clone(h.Nodes[at].Text)
		}
		if got := told(h); got != want {
			t.Errorf("P2003: a copy of %v: %s, not %s", g, got, want)
		}
	}
}

// TestTurned: P2003: nothing is kept of a graph: one that was turned between two calls is told as it is then.
func TestTurned(t *testing.T) {
	g := made("{1 1 2 2|[3|[4|i1|i0x1")
	checkEqual(t, "as it was", g, 1, 2, true)
	checkTwice(t, "as it was", g, 0)
	g.Nodes[4].Text = "2"
	checkEqual(t, "another Text", g, 1, 2, false)
	checkTwice(t, "another Text", g, -1)
	g.Nodes[2].Kids[0] = 3
	checkEqual(t, "another Kid", g, 1, 2, true)
	checkTwice(t, "another Kid", g, 0)
	g.Nodes[2].Tag = "t"
	checkEqual(t, "another Tag", g, 1, 2, false)
	checkTwice(t, "another Tag", g, -1)
	g.Nodes[1].Tag = "t"
	checkEqual(t, "the same Tag", g, 1, 2, true)
	g.Nodes[3].Kids = []int{0}
	checkEqual(t, "no longer Right", g, 1, 2, false)
	checkTwice(t, "no longer Right", g, -1)
}

// TestValuesAgain: P2003: Values tells the same again, and its texts are those of what is handed in alone.
func TestValuesAgain(t *testing.T) {
	a, b := number(api.VInt, false, "0100", 0, 0), number(api.VInt, false, "10", 1, 0)
	keptA, keptB := a, b
	for range 3 {
		checkValues(t, a, b, true)
		checkValues(t, a, number(api.VInt, false, "10", 0, 0), false)
		if a != keptA || b != keptB {
			t.Fatalf("P2003: %v and %v were changed", a, b)
		}
	}
	var none api.Value
	for range 3 {
		checkValues(t, none, none, true)
	}
}

// TestBeside: P2003: many ask at the same time, and each is told the same as one alone.
func TestBeside(t *testing.T) {
	for _, g := range samples() {
		want := told(g)
		done := make(chan string)
		for range 6 {
			go func() { done <- told(g) }()
		}
		for range 6 {
			if got := <-done; got != want {
				t.Errorf("P2003: %v side by side: %s, not %s", g, got, want)
			}
		}
	}
}

// TestNilAndEmpty: P2002, P2003: nil and an empty list mean the same, in each place.
func TestNilAndEmpty(t *testing.T) {
	room := []int{9, 9, 9}
	lists := [][]int{nil, {}, make([]int, 0, 4), room[:0], room[3:]}
	for _, roots := range lists {
		for _, nodes := range [][]api.Node{nil, {}, made("sa|sb").Nodes[:0], made("sa|sb").Nodes[2:]} {
			g := api.Graph{Nodes: nodes, Roots: roots}
			checkEqual(t, "nothing", g, 0, 0, false)
			checkTwice(t, "nothing", g, -1)
		}
		for _, kids := range lists {
			for kind := api.NScalar; kind <= api.NMap; kind++ {
				g := made("{1 3 2 3|s|s|sa")
				g.Roots = roots
				g.Nodes[1], g.Nodes[2] = api.Node{Kind: kind, Tag: "t", Kids: kids}, api.Node{Kind: kind, Tag: "t"}
				checkEqual(t, "no Kids", g, 1, 2, true)
				checkTwice(t, "no Kids", g, 0)
			}
		}
	}
	if !slices.Equal(room, []int{9, 9, 9}) {
		t.Errorf("P2003: the room behind an empty list: %v", room)
	}
}

// TestSharedKids: P2003: nodes may have one list of Kids in common, and the roots, too.
func TestSharedKids(t *testing.T) {
	list := []int{1, 2}
	node := api.Node{Kind: api.NSeq, Tag: "t", Kids: list}
	g := api.Graph{Nodes: []api.Node{node, node, node}, Roots: list}
	checkEqual(t, "one list of Kids", g, 0, 2, true)
	g.Nodes[2].Tag = "u"
	checkEqual(t, "one list of Kids", g, 0, 1, true)
	checkEqual(t, "one list of Kids", g, 0, 2, false)
	if !slices.Equal(list, []int{1, 2}) {
		t.Errorf("P2003: the list that is shared: %v", list)
	}
}
