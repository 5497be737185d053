package tags

import (
	"math"
	"math/rand"
	"strconv"
	"strings"
	"testing"

	"marginalia/api"
	"marginalia/props"
)

// whole: P1601: what a Scope makes of a tag.
func whole(t *testing.T, s *Scope, tag, want string, wrong api.Errno) {
	t.Helper()
	if got, e := s.Whole(tag); got != want || e != wrong {
		t.Errorf("P1601: %q: %q, %v, not %q, %v", tag, got, e, want, wrong)
	}
}

// TestZero: P1601: what a zero Scope makes whole.
func TestZero(t *testing.T) {
	var s Scope
	for tag, want := range map[string]string{"": "", "!": "!", "!a": "!a", "!!str": "tag:yaml.org,2002:str", "!!a": "tag:yaml.org,2002:a", "<a": "a", "<!": "!", "<!a": "!a", "<!!a": "!!a", "<!e!a": "!e!a", "<a,[]": "a,[]", "<!!": "!!", "<%41": "%41", "<tag:x,1:y": "tag:x,1:y", "!a%21": "!a%21", "!a:b/c": "!a:b/c", "!!a:b": "tag:yaml.org,2002:a:b", "!%41": "!%41", "!#": "!#", "!-9": "!-9"} {
		whole(t, &s, tag, want, api.OK)
	}
	for _, tag := range []string{"!e!a", "!-!a", "!0!a", "a", "a!b", "tag:yaml.org,2002:str", " !a", " ", "é", "\xff", "\x00"} {
		whole(t, &s, tag, "", api.ErrTag)
	}
}

// TestNotWritten: P1601: what props.Tag never tells is no tag, though its handle may be told.
func TestNotWritten(t *testing.T) {
	var zero, s Scope
	for _, handle := range []string{"", "!", "!!", "!e!", "<", "!<a!", "a", "!a b!", "!é!", "!a.b!", "!%41!"} {
		if !s.Set(handle, "x:") {
			t.Errorf("P1601: Set %q", handle)
		}
	}
	for _, tag := range []string{
		"<", "<<", "<>", "<a>", "<a b", "< ", "<%", "<%4", "<%4g", "<é", "<a\n", "<\xff", "<a<",
		"!!", "!e!", "!!!", "!!a!", "!!!a", "!!a!b", "!e!a!b", "!e!a!", "!e!!", "!e!!a",
		"!a b", "! ", "!a ", "!\t", "!a,", "!,", "!a[", "!]", "!{", "!a}", "!!a,b", "!e![", "!<", "!<a", "!<a>", "!<a>b", "!<a!b", "!a<", "!a>", "!\"", "!|", "!^",
		"!%", "!%4", "!%4g", "!%g4", "!a%", "!!%4", "!é", "!aé", "!!é", "!\ufffd", "!\xff", "!a\xff", "!!\xff", "!e!\xc3", "!a\x00", "!\n", "!a\n",
		"!a b!c", "!é!c", "!a.b!c", "!%41!c", "!a_b!c", "!é!", "a", "a!", "é",
	} {
		whole(t, &zero, tag, "", api.ErrTag)
		whole(t, &s, tag, "", api.ErrTag)
	}
	whole(t, &s, "!e!a", "x:a", api.OK)
}

// TestSet: P1601: a handle is Set once; it holds from then on.
func TestSet(t *testing.T) {
	var s Scope
	for _, x := range []struct {
		handle, prefix string
		want           bool
	}{{"!e!", "x:", true}, {"!e!", "y:", false}, {"!e!", "x:", false}, {"!!", "z", true}, {"!!", "tag:yaml.org,2002:", false}, {"!", "w:", true}, {"!", "!", false}, {"!E!", "", true}, {"!E!", "v", false}} {
		if got := s.Set(x.handle, x.prefix); got != x.want {
			t.Errorf("P1601: Set %q, %q: %v", x.handle, x.prefix, got)
		}
	}
	for tag, want := range map[string]string{"": "", "!": "!", "!a": "w:a", "!!a": "za", "!e!a": "x:a", "!E!a": "a", "<b": "b", "<!b": "!b"} {
		whole(t, &s, tag, want, api.OK)
	}
	whole(t, &s, "!f!a", "", api.ErrTag)
}

// TestRefused: P1601: a Set that answers false changes nothing.
func TestRefused(t *testing.T) {
	for _, handle := range []string{"!", "!!", "!e!", "!0!"} {
		var s Scope
		if !s.Set(handle, "x:") || s.Set(handle, "y:") || s.Set(handle, "") || s.Set(handle, "x:") || s.Set(handle, "z:") {
			t.Errorf("P1601: Set %q", handle)
		}
		whole(t, &s, handle+"a", "x:a", api.OK)
		whole(t, &s, "!f!a", "", api.ErrTag)
		if handle != "!" {
			whole(t, &s, "!a", "!a", api.OK)
		}
		if handle != "!!" {
			whole(t, &s, "!!a", "tag:yaml.org,2002:a", api.OK)
		}
		if !s.Set("!f!", "w:") {
			t.Errorf("P1601: Set !f! behind %q", handle)
		}
		whole(t, &s, "!f!a", "w:a", api.OK)
	}
}

// TestOddHandles: P1601: whatever a handle or a prefix is, it may be Set, once.
func TestOddHandles(t *testing.T) {
	var s Scope
	for _, handle := range []string{"", "a", "!a", "!e!b", "<", "é", "\xff", "!e!", " "} {
		if !s.Set(handle, "é "+handle) || s.Set(handle, "é "+handle) || s.Set(handle, "") {
			t.Errorf("P1601: Set %q", handle)
		}
	}
	for tag, want := range map[string]string{"": "", "!": "!", "!a": "!a", "!e!b": "é !e!b", "!!b": "tag:yaml.org,2002:b", "<b": "b"} {
		whole(t, &s, tag, want, api.OK)
	}
	if !s.Set("!n!", "") || s.Set("!n!", "") || s.Set("!n!", "x") {
		t.Error("P1601: Set with an empty prefix")
	}
	whole(t, &s, "!n!a", "a", api.OK)
	whole(t, &s, "!n!", "", api.ErrTag)
}

// TestMany: P1601: many handles, Set in any order, are each told as they were Set.
func TestMany(t *testing.T) {
	var s Scope
	list := rand.New(rand.NewSource(16)).Perm(3000)
	for at, x := range list {
		handle := "!" + strconv.Itoa(x) + "!"
		whole(t, &s, handle+"a", "", api.ErrTag)
		if !s.Set(handle, "x"+strconv.Itoa(x)+":") || s.Set(handle, "y") {
			t.Fatalf("P1601: Set %q", handle)
		}
		for _, x := range list[at/2 : min(at/2+3, at+1)] {
			whole(t, &s, "!"+strconv.Itoa(x)+"!a", "x"+strconv.Itoa(x)+":a", api.OK)
		}
	}
	for _, x := range list {
		if s.Set("!"+strconv.Itoa(x)+"!", "y") {
			t.Errorf("P1601: %d was Set twice", x)
		}
	}
}

// TestStart: P1601: the start of a whole tag is of what Whole tells, and of nothing else; what is none has none.
func TestStart(t *testing.T) {
	var s Scope
	s.Set("!e!", "abc:")
	s.Set("!n!", "")
	for _, tag := range []string{"", "!", "!a", "!abc", "!!str", "!e!x", "!e!xyz", "!n!xyz", "<abc", "<!", "!f!a", "a", "<a b", "!!", "!e!"} {
		want, wrong := s.Whole(tag)
		for _, most := range []int{math.MinInt, -1, 0, 1, 2, 3, 4, 5, 6, 7, 8, 17, 18, 19, 20, 21, 22, 1 << 40, math.MaxInt} {
			start := want[:max(min(len(want), most), 0)]
			if got, e := s.Start(tag, most); got != start || e != wrong {
				t.Errorf("P1601: %d of %q: %q, %v, not %q, %v", most, tag, got, e, start, wrong)
			}
		}
	}
}

// TestApart: P1602: two Scopes have nothing in common, one that was copied neither.
func TestApart(t *testing.T) {
	for size := range 20 {
		var a, fresh Scope
		for x := range size {
			a.Set("!"+strconv.Itoa(x)+"!", "x")
		}
		b := a
		if !a.Set("!a!", "a:") || !b.Set("!b!", "b:") || !a.Set("!b!", "c:") || !b.Set("!c!", "d:") {
			t.Errorf("P1602: of %d handles: what one was told the other has, too", size)
		}
		whole(t, &a, "!a!x", "a:x", api.OK)
		whole(t, &a, "!b!x", "c:x", api.OK)
		whole(t, &a, "!c!x", "", api.ErrTag)
		whole(t, &b, "!a!x", "", api.ErrTag)
		whole(t, &b, "!b!x", "b:x", api.OK)
		whole(t, &b, "!c!x", "d:x", api.OK)
		whole(t, &fresh, "!b!x", "", api.ErrTag)
		for x := range size {
			whole(t, &a, "!"+strconv.Itoa(x)+"!y", "xy", api.OK)
			whole(t, &b, "!"+strconv.Itoa(x)+"!y", "xy", api.OK)
		}
	}
}

// TestShort: P1601: how a tag is written.
func TestShort(t *testing.T) {
	const yaml = "tag:yaml.org,2002:"
	for tag, want := range map[string]string{
		yaml + "str": "!!str", yaml + "a": "!!a", yaml + "-": "!!-", yaml + "9": "!!9", yaml + "a-Z0": "!!a-Z0",
		yaml: "<" + yaml, yaml + ".": "<" + yaml + ".", yaml + ".a": "<" + yaml + ".a", yaml + "a.b": "<" + yaml + "a.b", yaml + "a.": "<" + yaml + "a.", yaml + "_": "<" + yaml + "_",
		yaml + "!": "<" + yaml + "!", yaml + "!a": "<" + yaml + "!a", yaml + "a!b": "<" + yaml + "a!b", yaml + "a!": "<" + yaml + "a!", yaml + "%41": "<" + yaml + "%41", yaml + "a%41": "<" + yaml + "a%41", yaml + ",[]": "<" + yaml + ",[]",
		"!": "<!", "!a": "!a", "!-": "!-", "!a-9Z": "!a-9Z", "!0": "!0", "!a.b": "<!a.b", "!.a": "<!.a", "!a.": "<!a.", "!!": "<!!", "!!a": "<!!a", "!a!": "<!a!", "!a!b": "<!a!b", "!e!a": "<!e!a", "!%41": "<!%41", "!a%41": "<!a%41", "!a_b": "<!a_b", "!" + yaml + "str": "<!" + yaml + "str",
		"x": "<x", "-": "<-", "a!": "<a!", "a%41[]": "<a%41[]", "%41": "<%41", "%fF": "<%fF", ",": "<,", "#;/?:@&=+$,_.!~*'()[]": "<#;/?:@&=+$,_.!~*'()[]",
		"tag:yaml.org,2002": "<tag:yaml.org,2002", "tag:yaml.org,2002;str": "<tag:yaml.org,2002;str", "tag:yaml.org,2003:str": "<tag:yaml.org,2003:str", "Tag:yaml.org,2002:str": "<Tag:yaml.org,2002:str", "ttag:yaml.org,2002:str": "<ttag:yaml.org,2002:str", yaml + yaml + "str": "<" + yaml + yaml + "str",
	} {
		short(t, tag, want, true)
	}
	for _, tag := range []string{
		"", " ", "a b", "a ", " a", "é", "aé", "éa", "!é", "!aé", "!éa", yaml + "é", yaml + "aé", yaml + " ", yaml + "a b", yaml + "a ", "! ", "!a b", "!a ",
		"%", "%4", "%4g", "%g4", "a%", "a%4", "!%", "!%4", yaml + "%", yaml + "%4", "<", "<a", "!<a>", "!<a", "a>", "{", "}", "a{}", "\"", "\\", "^", "`", "|",
		"\xff", "a\xff", "!\xff", "!a\xff", yaml + "\xff", yaml + "a\xc3", "\x00", "!\x00", "a\n", "!a\n", yaml + "a\n", "\t", "\u0160", "!\u0161", yaml + "\u0161", "\ufffd", "\U00010061", "!\U00010061",
	} {
		short(t, tag, "", false)
	}
}

// short: P1601: how a tag is written, and that what is written is that tag.
func short(t *testing.T, tag, want string, right bool) {
	t.Helper()
	got, ok := Short(tag)
	if got != want || ok != right {
		t.Errorf("P1601: Short %q: %q, %v, not %q, %v", tag, got, ok, want, right)
	}
	if ok {
		var zero Scope
		whole(t, &zero, got, tag, api.OK)
		toldWhole(t, got)
	}
}

// toldWhole: P1601: props.Tag tells the text that Short answered, and no more stands there.
func toldWhole(t *testing.T, text string) {
	t.Helper()
	line := text
	if text[0] == '<' {
		line = "!" + text + ">"
	}
	var l []int
	for _, c := range line {
		l = append(l, int(c))
	}
	if told, size, right := props.Tag(l); told != text || size != len(l) || !right {
		t.Errorf("P1601: Short answered %q, of which props.Tag tells %q, %d, %v", text, told, size, right)
	}
}

// TestLong: P1601: long texts.
func TestLong(t *testing.T) {
	long := strings.Repeat("a-0", 100000)
	var s Scope
	if !s.Set("!"+long+"!", long+":") || s.Set("!"+long+"!", "x") || !s.Set("!"+long+"a!", "y") {
		t.Error("P1601: Set of a long handle")
	}
	whole(t, &s, "!"+long+"!"+long, long+":"+long, api.OK)
	whole(t, &s, "!"+long+"a!"+long, "y"+long, api.OK)
	whole(t, &s, "!"+long+"b!"+long, "", api.ErrTag)
	whole(t, &s, "!"+long, "!"+long, api.OK)
	whole(t, &s, "!!"+long, "tag:yaml.org,2002:"+long, api.OK)
	whole(t, &s, "<"+long, long, api.OK)
	whole(t, &s, "<"+long+" ", "", api.ErrTag)
	whole(t, &s, "!"+long+",", "", api.ErrTag)
	short(t, "tag:yaml.org,2002:"+long, "!!"+long, true)
	short(t, "!"+long, "!"+long, true)
	short(t, "!"+long+".", "<!"+long+".", true)
	short(t, long, "<"+long, true)
	short(t, long+"é", "", false)
}

// TestTwice: P1602: the same calls tell the same, whatever was asked between them, and of whichever Scope.
func TestTwice(t *testing.T) {
	var a, b, zero Scope
	for _, s := range []*Scope{&a, &b} {
		s.Set("!e!", "x:")
		s.Set("!", "y:")
	}
	tags := []string{"", "!", "!a", "!!a", "!e!a", "!f!a", "<a", "<", "a", "!a b", "tag:yaml.org,2002:a", "é", "!!", "!a.b"}
	for range 3 {
		for _, tag := range tags {
			first, e := a.Whole(tag)
			whole(t, &a, tag, first, e)
			whole(t, &b, tag, first, e)
			name, ok := Short(tag)
			short(t, tag, name, ok)
			zero.Whole(tag)
			a.Set("!e!", tag)
		}
	}
	whole(t, &zero, "!e!a", "", api.ErrTag)
	whole(t, &zero, "!a", "!a", api.OK)
}
