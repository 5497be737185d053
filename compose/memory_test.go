package compose

import (
	"math/rand"
	"slices"
	"testing"

	"marginalia/api"
)

// samples are rows, right and wrong ones, on which the promises of memory are tried.
func samples() [][]api.Event {
	var list [][]api.Event
	for _, s := range []string{"", "+ :a -", "= &x ( *x ) .", "+ ( ) - + < > - + 'a -", "+ < &x :a !u ( :b *x ) *x &x :c *x *x > -", "+ &a ( &a :b *a ) -", "+ &a :b - + &a :c - + &x [ &a [ ] *a *x ] -", "+ ( ( ( :a ) :b ) :c :d :e :f :g ( :h ) ) -", "+ ( *x ) -", "+ ( ( ( ( ( ( ) ) ) ) ) ) -", "+ :a", "+ :a - -", "+ &x :a - + *x -"} {
		list = append(list, row(s))
	}
	from := rand.New(rand.NewSource(1803))
	for range 20 {
		list = append(list, grown(from))
	}
	return list
}

// tell is what is made of a row within some limits.
func tell(l []api.Event) string {
	return made(l, 200, 20000) + "|" + made(l, 2, 9) + "|" + made(l, 5, 4) + "|" + made(l, -1, 0)
}

// TestNilAndEmpty: P1801, P1802: nil and an empty row mean the same: no documents.
func TestNilAndEmpty(t *testing.T) {
	room := row("+ :a -")
	for _, none := range [][]api.Event{nil, {}, make([]api.Event, 0, 5), room[:0], room[3:], room[1:1]} {
		for _, limit := range append(far(), -1, 0, 1) {
			if g, e := Graph(none, limit, limit); e != api.OK || len(g.Nodes) != 0 || len(g.Roots) != 0 {
				t.Errorf("P1801: of nothing within %d: %v, %v", limit, g, e)
			}
		}
	}
	if got := made(room, 0, 1); got != "0; :a" {
		t.Errorf("P1802: what stood around nothing: %s", got)
	}
}

// TestTwice: P1802: the same call tells the same, whatever was asked between.
func TestTwice(t *testing.T) {
	list := samples()
	for _, l := range list {
		want := tell(l)
		for _, x := range list {
			tell(x)
			if again := tell(l); again != want {
				t.Fatalf("P1802: %v: %s, then %s", l, want, again)
			}
		}
		if copied := tell(slices.Clone(l)); copied != want {
			t.Errorf("P1802: %v: %s, a copy of it %s", l, want, copied)
		}
	}
}

// TestBeside: P1802: many ask at the same time, and each is told the same as one alone.
func TestBeside(t *testing.T) {
	for _, l := range samples() {
		want := tell(l)
		done := make(chan string)
		for range 6 {
			go func() { done <- tell(l) }()
		}
		for range 6 {
			if got := <-done; got != want {
				t.Errorf("P1802: %v side by side: %s, not %s", l, got, want)
			}
		}
	}
}

// TestUnchanged: P1802: what is handed in stays as it is, the room around it too, and that room is not looked at.
func TestUnchanged(t *testing.T) {
	for _, l := range samples() {
		want := tell(l)
		for _, s := range []string{"+ &x :a -", "*x ) *x", "&x ( &a :z", "- + :a", "> > >", "] ) -"} {
			more := row(s)
			room := slices.Concat(more, l, more, more)
			before := slices.Clone(room)
			if got := tell(room[len(more) : len(more)+len(l)]); got != want {
				t.Errorf("P1802: %v within more of %s: %s, not %s", l, s, got, want)
			}
			if !slices.Equal(room, before) {
				t.Fatalf("P1802: %v within more of %s was changed: %v", l, s, room)
			}
		}
	}
}

// lists are all lists of numbers in a graph, each with its room.
func lists(g api.Graph) [][]int {
	list := [][]int{g.Roots[:cap(g.Roots)]}
	for _, x := range g.Nodes {
		list = append(list, x.Kids[:cap(x.Kids)])
	}
	return list
}

// TestFreshMemory: P1802: what is answered shares no memory with what is handed in, nor with another answer.
func TestFreshMemory(t *testing.T) {
	for _, l := range samples() {
		before := slices.Clone(l)
		first, e := Graph(l, 200, 20000)
		want := show(first)
		second, _ := Graph(l, 200, 20000)
		for _, list := range lists(second) {
			for at := range list {
				list[at] = -77
			}
		}
		spare := second.Nodes[:cap(second.Nodes)]
		for at := range spare {
			spare[at] = api.Node{Kind: -77}
		}
		if got := show(first); got != want {
			t.Errorf("P1802: two answers of %v share memory: %s, not %s", l, got, want)
		}
		if !slices.Equal(l, before) {
			t.Fatalf("P1802: what was answered of %v is part of it: %v", before, l)
		}
		for at := range l {
			l[at] = api.Event{Kind: api.EScalar, Text: "x", Style: 9}
		}
		if got := show(first); got != want {
			t.Errorf("P1802: what was answered of %v changed with it: %s", before, got)
		}
		if third, wrong := Graph(before, 200, 20000); show(third) != want || wrong != e {
			t.Errorf("P1802: %v: %s, %v, then %s, %v", before, want, e, show(third), wrong)
		}
	}
}

// TestOwnLists: P1802: no two lists of one answer share memory, their room too: to write over one, or to append to it, changes no other one.
func TestOwnLists(t *testing.T) {
	for _, l := range samples() {
		g, _ := Graph(l, 200, 20000)
		for at := range lists(g) {
			fresh, _ := Graph(l, 200, 20000)
			all := lists(fresh)
			var kept [][]int
			for _, list := range all {
				kept = append(kept, slices.Clone(list))
			}
			for x := range all[at] {
				all[at][x] = -77
			}
			for other := range all {
				if other != at && !slices.Equal(all[other], kept[other]) {
					t.Fatalf("P1802: of %v list %d shares memory with list %d", l, other, at)
				}
			}
		}
	}
}

// TestTurned: P1802: a row that was turned between two calls is told as it is then.
func TestTurned(t *testing.T) {
	l := row("+ ( &x :a *x ) -")
	for _, x := range []struct {
		turn func()
		want string
	}{
		{func() {}, "0; [1 1] :a"},
		{func() { l[2].Anchor = "y" }, "ErrAlias"},
		{func() { l[1].Anchor = "x" }, "0; [1 0] :a"},
		{func() { l[2].Anchor, l[2].Style = "x", api.SSingle }, "0; [1 1] 'a"},
		{func() { l[3] = api.Event{Kind: api.EScalar, Style: 1, Tag: "t"} }, "0; [1 2] 'a !t :"},
		{func() { l[3].Style = 0 }, "ErrArg"},
	} {
		x.turn()
		if got := made(l, 1, 3); got != x.want {
			t.Errorf("P1802: %v: %s, not %s", l, got, x.want)
		}
	}
}
