package tags

import (
	"regexp"
	"strings"
	"testing"

	"marginalia/api"
)

// The document's words on what props.Tag tells, as patterns.
const (
	signs   = "(?:[0-9A-Za-z#;/?:@&=+$,_.!~*'()\\[\\]-]|%[0-9A-Fa-f]{2})"
	closing = "(?:[0-9A-Za-z#;/?:@&=+$_.~*'()-]|%[0-9A-Fa-f]{2})"
	wordly  = "[0-9A-Za-z-]"
)

var (
	angled = regexp.MustCompile("^<(" + signs + "+)$")
	twice  = regexp.MustCompile("^(!" + wordly + "*!)(" + closing + "+)$")
	once   = regexp.MustCompile("^!(" + closing + "*)$")
	ours   = regexp.MustCompile("^tag:yaml\\.org,2002:(" + wordly + "+)$")
	own    = regexp.MustCompile("^!" + wordly + "+$")
	right  = regexp.MustCompile("^" + signs + "+$")
)

// otherWhole is Whole by patterns, of handles that a map tells.
func otherWhole(known map[string]string, tag string) (string, api.Errno) {
	if tag == "" || tag == "!" {
		return tag, api.OK
	}
	if m := angled.FindStringSubmatch(tag); m != nil {
		return m[1], api.OK
	}
	if m := twice.FindStringSubmatch(tag); m != nil {
		if prefix, ok := known[m[1]]; ok {
			return prefix + m[2], api.OK
		}
		return "", api.ErrTag
	}
	if m := once.FindStringSubmatch(tag); m != nil {
		return known["!"] + m[1], api.OK
	}
	return "", api.ErrTag
}

// otherShort is Short by patterns.
func otherShort(tag string) (string, bool) {
	switch m := ours.FindStringSubmatch(tag); {
	case m != nil:
		return "!!" + m[1], true
	case own.MatchString(tag):
		return tag, true
	case right.MatchString(tag):
		return "<" + tag, true
	}
	return "", false
}

// texts tells all texts of at most size of these pieces.
func texts(pieces []string, size int, tell func(string)) {
	tell("")
	if size == 0 {
		return
	}
	for _, piece := range pieces {
		texts(pieces, size-1, func(rest string) { tell(piece + rest) })
	}
}

// TestOther: P1601: all short texts of the signs that matter are told as a second way tells them.
func TestOther(t *testing.T) {
	t.Parallel()
	known := map[string]string{"!": "!", "!!": "tag:yaml.org,2002:"}
	told := map[string]string{"!": "w:", "!!": "", "!a!": "x:", "!-!": "!", "!e!": "é"}
	var zero, s Scope
	for handle, prefix := range told {
		if !s.Set(handle, prefix) {
			t.Fatalf("P1601: Set %q", handle)
		}
	}
	texts([]string{"!", "<", ">", "a", "e", "-", ".", ",", "%", "4", " ", "é", "\xff", "[", "{"}, 5, func(tag string) {
		want, wrong := otherWhole(known, tag)
		whole(t, &zero, tag, want, wrong)
		want, wrong = otherWhole(told, tag)
		whole(t, &s, tag, want, wrong)
		if want, ok := otherShort(tag); len(tag) < 6 {
			short(t, tag, want, ok)
			want, ok = otherShort("tag:yaml.org,2002:" + tag)
			short(t, "tag:yaml.org,2002:"+tag, want, ok)
		}
	})
}

// TestEachSign: P1601: each code point of ASCII, and each byte, at each place.
func TestEachSign(t *testing.T) {
	known := map[string]string{"!": "!", "!!": "tag:yaml.org,2002:", "!e!": "x"}
	var s Scope
	s.Set("!e!", "x")
	for b := range 256 {
		for _, form := range []string{"_", "!_", "!!_", "!e!_", "!_!a", "<_", "a_", "!a_", "!a_b", "!!a_b", "<a_b", "!e!a_b", "!%_1", "!%1_", "<%_1", "<%1_", "tag:yaml.org,2002:_", "tag:yaml.org,2002:a_", "tag:yaml.org,2002:a_b"} {
			for _, sign := range []string{string([]byte{byte(b)}), string(rune(b))} {
				tag := strings.ReplaceAll(form, "_", sign)
				want, wrong := otherWhole(known, tag)
				whole(t, &s, tag, want, wrong)
				shorter, ok := otherShort(tag)
				short(t, tag, shorter, ok)
			}
		}
	}
}
