package tags

import (
	"math/rand"
	"strconv"
	"testing"

	"marginalia/api"
)

// whole: P1601: what a Scope makes of a tag.
func whole(t *testing.T, s *Scope, tag, want string, wrong api.Errno) {
	t.Helper()
	if got, e := s.Whole(tag); got != want || e != wrong {
		t.Errorf("P1601: %q: %q, %v, not %q, %v", tag, got, e, want, wrong)
	}
}

// TestZero: P1601: what a zero Scope makes whole.
func TestZero(t *testing.T) {
	var s Scope
	for tag, want := range map[string]string{"": "", "!": "!", "!a": "!a", "!!str": "tag:yaml.org,2002:str", "<a": "a", "<!": "!", "<!a": "!a", "<!!a": "!!a", "<!e!a": "!e!a", "<tag:x,1:y": "tag:x,1:y", "!a%21": "!a%21", "!a:b/c": "!a:b/c", "!!a:b": "tag:yaml.org,2002:a:b", "!%41": "!%41", "!#": "!#"} {
		whole(t, &s, tag, want, api.OK)
	}
	for _, tag := range []string{"!e!a", "!-!a", "!0!a", "a", "a!b", "tag:yaml.org,2002:str", " !a"} {
		whole(t, &s, tag, "", api.ErrTag)
	}
}

// TestSet: P1601: a handle is Set once; it holds from then on.
func TestSet(t *testing.T) {
	var s Scope
	for _, x := range []struct {
		handle, prefix string
		want           bool
	}{{"!e!", "x:", true}, {"!e!", "y:", false}, {"!e!", "x:", false}, {"!!", "z", true}, {"!!", "tag:yaml.org,2002:", false}, {"!", "w:", true}, {"!", "!", false}, {"!E!", "", true}, {"!E!", "v", false}} {
		if got := s.Set(x.handle, x.prefix); got != x.want {
			t.Errorf("P1601: Set %q, %q: %v", x.handle, x.prefix, got)
		}
	}
	for tag, want := range map[string]string{"": "", "!": "!", "!a": "w:a", "!!a": "za", "!e!a": "x:a", "!E!a": "a", "<b": "b", "<!b": "!b"} {
		whole(t, &s, tag, want, api.OK)
	}
	whole(t, &s, "!f!a", "", api.ErrTag)
}

// TestMany: P1601: many handles, Set in any order, are each told as they were Set.
func TestMany(t *testing.T) {
	var s Scope
	list := rand.New(rand.NewSource(16)).Perm(3000)
	for at, x := range list {
		handle := "!" + strconv.Itoa(x) + "!"
		whole(t, &s, handle+"a", "", api.ErrTag)
		if !s.Set(handle, "x"+strconv.Itoa(x)+":") || s.Set(handle, "y") {
			t.Fatalf("P1601: Set %q", handle)
		}
		for _, x := range list[at/2 : min(at/2+3, at+1)] {
			whole(t, &s, "!"+strconv.Itoa(x)+"!a", "x"+strconv.Itoa(x)+":a", api.OK)
		}
	}
	for _, x := range list {
		if s.Set("!"+strconv.Itoa(x)+"!", "y") {
			t.Errorf("P1601: %d was Set twice", x)
		}
	}
}

// TestApart: P1602: two Scopes have nothing in common, one that was copied neither.
func TestApart(t *testing.T) {
	for size := range 20 {
		var a, fresh Scope
		for x := range size {
			a.Set("!"+strconv.Itoa(x)+"!", "x")
		}
		b := a
		if !a.Set("!a!", "a:") || !b.Set("!b!", "b:") || !a.Set("!b!", "c:") || !b.Set("!c!", "d:") {
			t.Errorf("P1602: of %d handles: what one was told the other has, too", size)
		}
		whole(t, &a, "!a!x", "a:x", api.OK)
		whole(t, &a, "!b!x", "c:x", api.OK)
		whole(t, &a, "!c!x", "", api.ErrTag)
		whole(t, &b, "!a!x", "", api.ErrTag)
		whole(t, &b, "!b!x", "b:x", api.OK)
		whole(t, &b, "!c!x", "d:x", api.OK)
		whole(t, &fresh, "!b!x", "", api.ErrTag)
		for x := range size {
			whole(t, &a, "!"+strconv.Itoa(x)+"!y", "xy", api.OK)
			whole(t, &b, "!"+strconv.Itoa(x)+"!y", "xy", api.OK)
		}
	}
}
