package flow

import (
	"slices"
	"testing"

	"marginalia/api"
	"marginalia/places"
)

// TestOuter: as Node, but a plain text that stands in no collection is one without flow.
func TestOuter(t *testing.T) {
	for s, want := range map[string]string{"a, b]": ":a,_b] @0:5", "-,": ":-, @0:2", "a\n]b": ":a_]b @1:2", "&x a}: b": "&x :a} @0:5", "[a, b]c": "[ :a :b ] @0:6", "{a,}": "{ :a : } @0:4", "'a', b": "'a @0:3", "*a, b": "*a @0:2", "[-,]": "ErrSyntax", ",": "ErrSyntax", "\"\\ud800\"": "ErrChar"} {
		list, end, e := New(all(s)).Outer(places.Place{}, -1, 0)
		got := nameOf(e)
		if e == api.OK {
			got = show(list, end.Line, end.At)
		}
		if got != want || e != api.OK && (list != nil || end != places.Place{}) {
			t.Errorf("Outer of %q: %s, not %s", s, got, want)
		}
	}
	r := New(all("x\n [a,\n b] c"))
	if _, _, e := r.Outer(places.Place{Line: 1}, 1, 0); e != api.ErrIndent {
		t.Errorf("Outer within 1: %v", e)
	}
	if _, _, e := r.Outer(places.Place{Line: 1}, 0, api.MaxDepth); e != api.ErrDeep {
		t.Errorf("Outer in too many: %v", e)
	}
	if _, end, e := r.Outer(places.Place{Line: 1}, 0, api.MaxDepth-1); e != api.OK || end != (places.Place{Line: 2, At: 2}) {
		t.Errorf("Outer: %v, %v", end, e)
	}
}

// TestColon: as Key, of places.
func TestColon(t *testing.T) {
	r := New(all("x\n  a: b: c\n&x : d"))
	for _, x := range []struct {
		from, want places.Place
		found      bool
	}{{places.Place{Line: 1}, places.Place{Line: 1, At: 1}, true}, {places.Place{Line: 1, At: 3}, places.Place{Line: 1, At: 4}, true}, {places.Place{Line: 1, At: 2}, places.Place{}, false}, {places.Place{Line: 1, At: 6}, places.Place{}, false}, {places.Place{}, places.Place{}, false}, {places.Place{Line: 2}, places.Place{Line: 2, At: 3}, true}} {
		if got, found := r.Colon(x.from); got != x.want || found != x.found {
			t.Errorf("Colon at %v: %v, %v", x.from, got, found)
		}
	}
}

// TestLineProperties: the properties of one line alone.
func TestLineProperties(t *testing.T) {
	for s, want := range map[string]Properties{"a": {}, "  &x a": {Anchor: "x", Behind: places.Place{At: 2}}, "&x !t\n&y": {Anchor: "x", Tag: "!t", Behind: places.Place{At: 5}}, "!<u> # &x": {Tag: "<u", Behind: places.Place{At: 4}}, "&x": {Anchor: "x", Behind: places.Place{At: 2}}, "": {}, "# &x": {}, "!t[]": {Tag: "!t", Behind: places.Place{At: 2}}} {
		r := New(slices.Concat(all("z"), all(s)))
		want.Behind.Line = 1
		if got, e := r.Properties(places.Place{Line: 1}); got != want || e != api.OK {
			t.Errorf("Properties of %q: %v, %v, not %v", s, got, e, want)
		}
	}
	for _, s := range []string{"&", "&x &y", "!t !u", "!<u>a", "&x\x00"} {
		if got, e := New(all(s)).Properties(places.Place{}); got != (Properties{}) || e != api.ErrSyntax {
			t.Errorf("Properties of %q: %v, %v", s, got, e)
		}
	}
}
