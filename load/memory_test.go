package load

import (
	"bytes"
	"math/rand"
	"slices"
	"strconv"
	"strings"
	"testing"
	"unsafe"

	"marginalia/api"
)

// samples are texts, right and wrong ones, on which the promises of memory are tried.
func samples() []string {
	list := []string{"", "a", "a: 1", "# c\n", "\ufeffa: é", "[a, [b, 'c'], {d: \"e\\n\"}]", "&a [&b {*a : *b}, *b, !x y, ! z, !<w> v]", "--- |\n  text\n--- &a {k: &l [*a, *l]}\n...\n%TAG !e! x:\n--- !e!f [!!int 7]", "- - - a\n    - b\n  - c\n- d\n", "\xff\xfea\x00", "\xfe\xff\x00[\x00]", "[a", "*a", "[!!int x]", "{a: 1, a: 2}", "\xff", "\a", "!e!x a", "a:\n\tb", "'a'\n b", "!<" + strings.Repeat("t", 1001) + "> a", "[" + strings.Repeat("a,", 300) + "]", "&a [" + strings.Repeat("*a,", 300) + "]"}
	from := rand.New(rand.NewSource(2103))
	for range 20 {
		list = append(list, grown(from))
	}
	return list
}

// rowOf is what Events tells of some bytes, as a text.
func rowOf(b []byte) string {
	list, e := Events(b)
	told := nameOf(e)
	for _, x := range list {
		told += " " + strconv.Itoa(x.Kind) + strconv.Quote(x.Text) + strconv.Quote(x.Tag) + strconv.Quote(x.Anchor) + strconv.Itoa(x.Style) + strconv.FormatBool(x.Flag)
	}
	return told
}

// graphOf is what Load tells of some bytes, as a text.
func graphOf(b []byte, l api.Limits, by int) string {
	g, e := Load(b, l, by)
	return nameOf(e) + " " + show(g)
}

// tell is all that is told of some bytes, within some limits.
func tell(b []byte) string {
	told := []string{rowOf(b)}
	for by := range 3 {
		told = append(told, graphOf(b, wide(), by), graphOf(b, api.Limits{Bytes: len(b), Depth: 2, Nodes: 9}, by), graphOf(b, api.Limits{Bytes: len(b) - 1, Depth: 9, Nodes: 9}, by))
	}
	return strings.Join(told, "\n")
}

// TestNilAndEmpty: P2101, P2102: nil and no bytes mean the same: no documents.
func TestNilAndEmpty(t *testing.T) {
	room := []byte("[a]")
	for _, none := range [][]byte{nil, {}, make([]byte, 0, 5), room[:0], room[3:], room[1:1]} {
		if list, e := Events(none); e != api.OK || len(list) != 0 {
			t.Errorf("P2101: Events of nothing: %v, %v", list, e)
		}
		for _, limit := range []api.Limits{{}, {Bytes: -1, Depth: -1, Nodes: -1}, wide()} {
			for by := range 4 {
				if g, e := Load(none, limit, by); e != api.OK || len(g.Nodes) != 0 || len(g.Roots) != 0 {
					t.Errorf("P2101: nothing within %v: %v, %v", limit, g, e)
				}
			}
		}
	}
	if string(room) != "[a]" {
		t.Errorf("P2102: what stands around nothing is now %s", room)
	}
}

// TestAgain: P2102: the same call tells the same, whatever was asked between.
func TestAgain(t *testing.T) {
	list := samples()
	for _, s := range list {
		want := tell([]byte(s))
		for _, x := range list {
			Load([]byte(x), wide(), api.JSON)
			Events([]byte(x))
		}
		if again := tell([]byte(s)); again != want {
			t.Fatalf("P2102: %s: %s, then %s", short(s), short(want), short(again))
		}
	}
}

// TestBeside: P2102: many ask at the same time, and each is told the same as one alone.
func TestBeside(t *testing.T) {
	for _, s := range samples() {
		b := []byte(s)
		want := tell([]byte(s))
		done := make(chan string)
		for range 6 {
			go func() { done <- tell(b) }()
		}
		for range 6 {
			if got := <-done; got != want {
				t.Errorf("P2102: %s side by side: %s, not %s", short(s), short(got), short(want))
			}
		}
	}
}

// TestUnchanged: P2102: what is handed in stays as it is, the room around it too, and that room is not looked at.
func TestUnchanged(t *testing.T) {
	for _, s := range samples() {
		want := tell([]byte(s))
		for _, around := range []string{"\xff", "a", "]", "\n- ", "\x00"} {
			whole := []byte(around + around + s + around + around)
			before := bytes.Clone(whole)
			if got := tell(whole[2*len(around) : 2*len(around)+len(s)]); got != want {
				t.Errorf("P2102: %s within %q: %s, not %s", short(s), around, short(got), short(want))
			}
			if !bytes.Equal(whole, before) {
				t.Fatalf("P2102: %s within %q was changed", short(s), around)
			}
		}
	}
}

// lists are all lists of a graph, with the room behind each.
func lists(g api.Graph) [][]int {
	list := [][]int{g.Roots[:cap(g.Roots)]}
	for _, x := range g.Nodes {
		list = append(list, x.Kids[:cap(x.Kids)])
	}
	return list
}

// TestFresh: P2102: what is answered shares no memory with what is handed in, nor with another answer.
func TestFresh(t *testing.T) {
	for _, s := range samples() {
		b := []byte(s)
		g, e := Load(b, wide(), api.Core)
		list, _ := Events(b)
		wantGraph, wantRow := show(g), slices.Clone(list)
		for at := range b {
			b[at] = '#'
		}
		h, _ := Load([]byte(s), wide(), api.Core)
		for _, list := range lists(h) {
			for at := range list {
				list[at] = -77
			}
		}
		spare := h.Nodes[:cap(h.Nodes)]
		for at := range spare {
			spare[at] = api.Node{Kind: -77}
		}
		others, _ := Events([]byte(s))
		others = others[:cap(others)]
		for at := range others {
			others[at] = api.Event{Kind: -77}
		}
		if got := show(g); got != wantGraph || !slices.Equal(list, wantRow) {
			t.Errorf("P2102: what was told of %s turned with what is not its own: %s, not %s", short(s), short(got), short(wantGraph))
		}
		if third, wrong := Load([]byte(s), wide(), api.Core); show(third) != wantGraph || wrong != e {
			t.Errorf("P2102: %s: %s, %v, then %s, %v", short(s), short(wantGraph), e, short(show(third)), wrong)
		}
	}
}

// apart tells whether s shares no memory with b.
func apart(s string, b []byte) bool {
	first, at := uintptr(unsafe.Pointer(unsafe.SliceData(b))), uintptr(unsafe.Pointer(unsafe.StringData(s)))
	return s == "" || at < first || at >= first+uintptr(cap(b))
}

// TestTextsApart: P2102: no text that is told lies in what was handed in.
func TestTextsApart(t *testing.T) {
	for _, s := range samples() {
		b := []byte(s)
		g, _ := Load(b, wide(), api.Core)
		for _, x := range g.Nodes {
			if !apart(x.Text, b) || !apart(x.Tag, b) {
				t.Errorf("P2102: of %s a node shares memory with it", short(s))
			}
		}
		list, _ := Events(b)
		for _, x := range list {
			if !apart(x.Text, b) || !apart(x.Tag, b) || !apart(x.Anchor, b) {
				t.Errorf("P2102: of %s an event shares memory with it", short(s))
			}
		}
	}
}

// TestOwnLists: P2102: no two lists of one answer share memory, their room too.
func TestOwnLists(t *testing.T) {
	for _, s := range samples() {
		g, _ := Load([]byte(s), wide(), api.Core)
		all := lists(g)
		for at := range all {
			for x := range all[at] {
				all[at][x] = -100 - at
			}
		}
		for at, list := range all {
			for _, x := range list {
				if x != -100-at {
					t.Fatalf("P2102: of %s list %d shares memory with list %d", short(s), at, -100-x)
				}
			}
		}
	}
}

// TestTurned: P2102: bytes that were turned between two calls are told as they are then.
func TestTurned(t *testing.T) {
	b := []byte("{a: 1, b: 2}")
	for _, x := range []struct {
		at   int
		turn byte
		want string
	}{{4, '1', "OK 0|!!map{1 2 3 4}|!!str:a|!!int:1|!!str:b|!!int:2"}, {7, 'a', "ErrTwice "}, {1, '1', "OK 0|!!map{1 2 3 4}|!!int:1|!!int:1|!!str:a|!!int:2"}, {11, ']', "ErrSyntax "}, {11, '\a', "ErrChar "}, {11, '}', "OK 0|!!map{1 2 3 4}|!!int:1|!!int:1|!!str:a|!!int:2"}, {10, '\xff', "ErrChar "}} {
		b[x.at] = x.turn
		if got := graphOf(b, wide(), api.Core); got != x.want {
			t.Errorf("P2102: %q: %s, not %s", b, got, x.want)
		}
	}
}
