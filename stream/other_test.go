package stream

import (
	"math/rand"
	"regexp"
	"slices"
	"strings"
	"testing"

	"marginalia/api"
	"marginalia/parser"
)

// What lines look like.
var (
	isMarker  = regexp.MustCompile(`^(---|\.\.\.)([ \t].*)?$`)
	isEnding  = regexp.MustCompile(`^\.\.\.[ \t]*([ \t]#.*)?$`)
	isBare    = regexp.MustCompile(`^[ \t]*(#.*)?$`)
	isTag     = regexp.MustCompile(`^%TAG[ \t]+(!|!!|![a-zA-Z0-9-]+!)[ \t]+((?:[-a-zA-Z0-9#;/?:@&=+$,_.!~*'()\[\]]|%[0-9a-fA-F]{2})+)[ \t]*([ \t]#.*)?$`)
	isYAML    = regexp.MustCompile(`^%YAML[ \t]+1\.[0-9]+[ \t]*([ \t]#.*)?$`)
	isAnother = regexp.MustCompile(`^%[^ \t,\[\]{}]+([ \t].*)?$`)
	isNamed   = regexp.MustCompile(`^%(YAML|TAG)([ \t]|$)`)
	isHandle  = regexp.MustCompile(`^(![^!]*!|!)(.*)$`)
)

// part is what stands from a Marker up to the next one; the first part has no Marker.
type part struct {
	marker string
	lines  []string
}

// parts cuts a text at its Markers, which end whatever stands ahead of them.
func parts(s string) []part {
	list := []part{{}}
	for _, line := range strings.Split(s, "\n") {
		if m := isMarker.FindStringSubmatch(line); m != nil {
			list = append(list, part{marker: m[1]})
		}
		last := &list[len(list)-1]
		last.lines = append(last.lines, line)
	}
	return list
}

// other is a second way to what Read tells: it cuts at the Markers first, and looks at each part alone.
type other struct {
	want     []api.Event
	wrong    api.Errno
	prefixes map[string]string
}

// otherRead tells what a text must be read as.
func otherRead(s string) string {
	o := other{}
	list := parts(s)
	for at, x := range list {
		next := ""
		if at+1 < len(list) {
			next = list[at+1].marker
		}
		switch x.marker {
		case "---":
			o.document(x.lines, 3, next)
		case "...":
			if !isEnding.MatchString(x.lines[0]) {
				o.fail(api.ErrSyntax)
			}
			o.without(x.lines[1:], next)
		default:
			o.without(x.lines, next)
		}
	}
	if o.wrong != api.OK {
		return nameOf(o.wrong)
	}
	return show(o.want)
}

// fail keeps the first error.
func (o *other) fail(e api.Errno) {
	if o.wrong == api.OK {
		o.wrong = e
	}
}

// without looks at a part without a ---: remarks, directives, and a document that may begin on any line.
func (o *other) without(lines []string, next string) {
	o.prefixes = map[string]string{}
	directives, version := 0, false
	for at, line := range lines {
		switch {
		case isBare.MatchString(line):
			continue
		case line[0] != '%':
			if directives > 0 {
				o.fail(api.ErrSyntax)
			}
			o.document(lines[at:], 0, next)
			return
		}
		directives++
		tag := isTag.FindStringSubmatch(line)
		yaml := isYAML.MatchString(line)
		another := isAnother.MatchString(line) && !isNamed.MatchString(line)
		if tag != nil {
			if _, twice := o.prefixes[tag[1]]; twice {
				o.fail(api.ErrSyntax)
			}
			o.prefixes[tag[1]] = tag[2]
		}
		if tag == nil && !yaml && !another || yaml && version {
			o.fail(api.ErrSyntax)
		}
		version = version || yaml
	}
	if directives > 0 && next != "---" {
		o.fail(api.ErrSyntax)
	}
}

// document looks at one from the first of these lines on.
func (o *other) document(lines []string, column int, next string) {
	o.want = append(o.want, api.Event{Kind: api.EDoc, Flag: column > 0})
	node, behind, e := parser.Node(all(strings.Join(lines, "\n")), 0, column)
	if e == api.OK && behind != len(lines) {
		panic("a document that ends ahead of a Marker")
	}
	o.fail(e)
	for _, x := range node {
		x.Tag = o.whole(x.Tag)
		o.want = append(o.want, x)
	}
	o.want = append(o.want, api.Event{Kind: api.EDone, Flag: next == "..."})
	o.prefixes = nil
}

// whole is the whole tag of one as it is written.
func (o *other) whole(tag string) string {
	if tag == "" || tag == "!" {
		return tag
	}
	if tag[0] == '<' {
		return tag[1:]
	}
	m := isHandle.FindStringSubmatch(tag)
	prefix, known := o.prefixes[m[1]]
	switch {
	case known:
		return prefix + m[2]
	case m[1] == "!":
		return tag
	case m[1] == "!!":
		return "tag:yaml.org,2002:" + m[2]
	}
	o.fail(api.ErrTag)
	return ""
}

// pieces are lines of each kind that means something to a stream.
func pieces() []string {
	return []string{"", "# c", "---", "--- a", "--- !e!x [b]", "...", "... # c", "... d", "%A", "%YAML 1.2", "%YAML 2.1", "%TAG !e! x:", "%TAG !! y", "%", "a", "  b", "- !e!c d", "- !!c d", "- !c", "'e'", "\tf", "k: v", " %A", "...#", "--- |"}
}

// TestEachStream: P1501, P1502: of all streams of few lines Read tells the same as a second way.
func TestEachStream(t *testing.T) {
	t.Parallel()
	list := pieces()
	for size := range 4 {
		place := make([]int, size+1)
		for {
			chosen := make([]string, len(place))
			for at, x := range place {
				chosen[at] = list[x]
			}
			s := strings.Join(chosen, "\n")
			if got, want := read(all(s)), otherRead(s); got != want {
				t.Errorf("P1501: %q: %s, not %s", s, got, want)
			}
			if !step(place, len(list), size == 3) {
				break
			}
		}
	}
}

// step goes to the next choice; few: it passes over most of them.
func step(place []int, most int, few bool) bool {
	add := 1
	if few {
		add = 7
	}
	for at := range place {
		place[at] += add
		if place[at] < most {
			return true
		}
		place[at] -= most
		add = 1
	}
	return false
}

// TestSomeStreams: P1501, P1502: of longer streams, too.
func TestSomeStreams(t *testing.T) {
	t.Parallel()
	from := rand.New(rand.NewSource(115))
	list := pieces()
	right := slices.DeleteFunc(slices.Clone(list), func(s string) bool { return slices.Contains([]string{"... d", "%YAML 2.1", "%", "\tf", " %A"}, s) })
	long := 0
	for round := range 60000 {
		from := rand.New(rand.NewSource(from.Int63()))
		use := list
		if round%2 > 0 {
			use = right
		}
		var chosen []string
		for range 1 + from.Intn(14) {
			chosen = append(chosen, use[from.Intn(len(use))])
			if chosen[len(chosen)-1][:min(1, len(chosen[len(chosen)-1]))] == "%" && from.Intn(3) > 0 {
				chosen = append(chosen, "---")
			}
		}
		s := strings.Join(chosen, "\n")
		got, want := read(all(s)), otherRead(s)
		if got != want {
			t.Errorf("P1501: %q: %s, not %s", s, got, want)
		}
		if strings.Count(got, "=") > 2 {
			long++
		}
	}
	if long < 1000 {
		t.Errorf("only %d of the streams had several documents", long)
	}
}
