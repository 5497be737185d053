package stream

import (
	"math/rand"
	"strconv"
	"strings"
	"testing"

	"marginalia/api"
	"marginalia/events"
)

// grower makes a stream, and the events that it must be read as, side by side.
type grower struct {
	from  *rand.Rand
	lines []string
	want  []api.Event
}

// one is one of these.
func (g *grower) one(list ...string) string {
	return list[g.from.Intn(len(list))]
}

// bare adds lines that mean nothing.
func (g *grower) bare() {
	for range g.from.Intn(2) * g.from.Intn(3) {
		g.lines = append(g.lines, g.one("", "# c", "  ", "\t# %YAML 2.0", "#---", "   # ..."))
	}
}

// endings adds so many lines of ... .
func (g *grower) endings(count int) {
	for range count {
		g.lines = append(g.lines, "..."+g.one("", "", " ", "\t", " # c", "\t#", "  # ... d"))
		g.bare()
	}
}

// directives adds some, and answers which prefix each handle has then.
func (g *grower) directives() map[string]string {
	prefixes := map[string]string{"!": "!", "!!": "tag:yaml.org,2002:"}
	list := []string{"%A", "%B c d", "%B c d", "%yaml 3.0"}
	if g.from.Intn(2) == 0 {
		list = append(list, g.one("%YAML 1.2", "%YAML 1.1 # c", "%YAML\t1.30"))
	}
	for _, handle := range []string{"!", "!!", "!e!", "!f-1!"} {
		if g.from.Intn(2) == 0 {
			prefixes[handle] = g.one("x:", "!", "!y", "%41", "tag:z,1:", "[", "#")
			list = append(list, "%TAG"+g.one(" ", "\t", "  ")+handle+" "+prefixes[handle]+g.one("", " ", " # c"))
		}
	}
	g.from.Shuffle(len(list), func(a, b int) { list[a], list[b] = list[b], list[a] })
	for _, line := range list {
		g.lines = append(g.lines, line)
		g.bare()
	}
	return prefixes
}

// tag makes one as it is written, and the whole of it.
func (g *grower) tag(prefixes map[string]string) (string, string) {
	switch g.from.Intn(4) {
	case 0:
		return "", ""
	case 1:
		return "! ", "!"
	case 2:
		return "!<t:!u> ", "t:!u"
	}
	for {
		handle := g.one("!", "!!", "!e!", "!f-1!")
		if prefix, known := prefixes[handle]; known {
			suffix := g.one("a", "str", "%21", "b:c#d")
			return handle + suffix + " ", prefix + suffix
		}
	}
}

// document adds one, behind a --- or not, with these prefixes.
func (g *grower) document(marked bool, prefixes map[string]string) {
	g.want = append(g.want, api.Event{Kind: api.EDoc, Flag: marked})
	written, whole := g.tag(prefixes)
	text := g.one("a", "b c", "-d", "%e")
	if text == "%e" {
		text = "x %e"
	}
	head := ""
	if marked {
		head = "---" + g.one(" ", "\t", "  ")
	}
	switch g.from.Intn(5) {
	case 0: // on the line, if there is one
		g.lines = append(g.lines, head+written+text)
		g.want = append(g.want, api.Event{Kind: api.EScalar, Text: text, Tag: whole, Style: api.SPlain})
	case 1: // in brackets, over several lines
		inner, innerWhole := g.tag(prefixes)
		g.lines = append(g.lines, head+written+"[", " "+inner+"'%A', ", "# c", "  ]")
		g.want = append(g.want, api.Event{Kind: api.ESeq, Tag: whole, Flag: true}, api.Event{Kind: api.EScalar, Text: "%A", Tag: innerWhole, Style: api.SSingle}, api.Event{Kind: api.ESeqEnd})
		g.bare()
	case 2: // a sequence by columns
		if head+written != "" {
			g.lines = append(g.lines, head+written)
			g.bare()
		}
		g.want = append(g.want, api.Event{Kind: api.ESeq, Tag: whole})
		for range 1 + g.from.Intn(3) {
			inner, innerWhole := g.tag(prefixes)
			g.lines = append(g.lines, "- "+inner+text)
			g.want = append(g.want, api.Event{Kind: api.EScalar, Text: text, Tag: innerWhole, Style: api.SPlain})
			g.bare()
		}
		g.want = append(g.want, api.Event{Kind: api.ESeqEnd})
	case 3: // a mapping by columns, with a text of whole lines
		if head+written != "" {
			g.lines = append(g.lines, head+written)
		}
		inner, innerWhole := g.tag(prefixes)
		g.lines = append(g.lines, "k: "+inner+"|-", " %A", " ---")
		g.want = append(g.want, api.Event{Kind: api.EMap, Tag: whole}, api.Event{Kind: api.EScalar, Text: "k", Style: api.SPlain}, api.Event{Kind: api.EScalar, Text: "%A\n---", Tag: innerWhole, Style: api.SLiteral}, api.Event{Kind: api.EMapEnd})
	case 4: // nothing, if a --- tells that there is a document
		if !marked {
			head = "&n "
		}
		g.lines = append(g.lines, head+written)
		x := api.Event{Kind: api.EScalar, Tag: whole, Style: api.SPlain}
		if !marked {
			x.Anchor = "n"
		}
		g.want = append(g.want, x)
	}
}

// grown is a stream of so many documents, and its events.
func grown(from *rand.Rand, count int) (string, []api.Event) {
	g := grower{from: from}
	g.bare()
	free := true // a ... or nothing stands ahead
	g.endings(from.Intn(3))
	for range count {
		prefixes := map[string]string{"!": "!", "!!": "tag:yaml.org,2002:"}
		marked := !free || from.Intn(2) == 0
		if free && marked && from.Intn(2) == 0 {
			prefixes = g.directives()
		}
		g.document(marked, prefixes)
		ends := from.Intn(2) * (1 + from.Intn(3))
		g.want = append(g.want, api.Event{Kind: api.EDone, Flag: ends > 0})
		g.endings(ends)
		free = ends > 0
	}
	return strings.Join(g.lines, "\n"), g.want
}

// TestGrown: P1501: streams of every shape are read as what they were made of.
func TestGrown(t *testing.T) {
	t.Parallel()
	from := rand.New(rand.NewSource(1501))
	for range 30000 {
		s, want := grown(from, from.Intn(6))
		list, e := Read(all(s))
		if e != api.OK || show(list) != show(want) {
			t.Errorf("P1501: %q: %s, %s, not %s", s, nameOf(e), show(list), show(want))
		}
		if !events.Right(list) {
			t.Errorf("P1501: %q: what is told is no row of documents", s)
		}
	}
}

// TestSpoilt: P1502: a stream with a document that is wrong is refused by that one's error, whatever stands behind it.
func TestSpoilt(t *testing.T) {
	t.Parallel()
	from := rand.New(rand.NewSource(1502))
	for range 10000 {
		ahead, _ := grown(from, from.Intn(3))
		behind, _ := grown(from, from.Intn(3))
		wrong := []struct{ text, want string }{{"--- ]", "ErrSyntax"}, {"---\n\ta", "ErrTab"}, {"---\n'a'\n b", "ErrIndent"}, {"--- !z!a b", "ErrTag"}, {"--- 'a'\n... b", "ErrSyntax"}, {"...\n%", "ErrSyntax"}, {"...\n%A", "ErrSyntax"}, {"...\n%YAML 9.9\n---", "ErrSyntax"}, {"...\n%TAG ! x\n%TAG ! x\n---", "ErrSyntax"}}
		first, second := wrong[from.Intn(len(wrong))], wrong[from.Intn(len(wrong))]
		s := ahead + "\n" + first.text + "\n...\n" + behind + "\n" + second.text
		if got := read(all(s)); got != first.want {
			t.Errorf("P1502: %q: %s, not %s", s, got, first.want)
		}
	}
}

// TestLong: P1501, P1502: long streams, of each kind of line.
func TestLong(t *testing.T) {
	t.Parallel()
	const many = 100000
	for _, x := range []struct{ line, want string }{{"---\n", " = : -"}, {"--- !!a b\n", " = !tag:yaml.org,2002:a :b -"}, {"--- a\n...\n", " = :a ."}, {"%YAML 1.2\n---\n...\n", " = : ."}, {"...\n", ""}, {"# c\n", ""}, {"%A\n\n---\n- b\n...\n", " = ( :b ) ."}} {
		got := read(all(strings.Repeat(x.line, many)))
		if want := strings.TrimPrefix(strings.Repeat(x.want, many), " "); got != want {
			t.Errorf("P1501: many times %q: %.200s", x.line, got)
		}
		if got := read(all(strings.Repeat(x.line, many) + "---\n\ta")); got != "ErrTab" {
			t.Errorf("P1502: many times %q ahead of an error: %.200s", x.line, got)
		}
	}
	var b strings.Builder
	for at := range many {
		b.WriteString("%TAG !" + strconv.Itoa(at*7919%many) + "! x:" + strconv.Itoa(at*7919%many) + ":\n")
	}
	handles := b.String()
	if got, want := read(all(handles+"---\n- !5!a b\n- !99999!c d\n- !0!e f")), "= ( !x:5:a :b !x:99999:c :d !x:0:e :f ) -"; got != want {
		t.Errorf("P1501: many handles: %s, not %s", got, want)
	}
	if got := read(all(handles + "%TAG !77! y\n---")); got != "ErrSyntax" {
		t.Errorf("P1501: a second one of many handles: %.200s", got)
	}
	if got := read(all(strings.Repeat("%A\n", many))); got != "ErrSyntax" {
		t.Errorf("P1501: many directives alone: %.200s", got)
	}
	if got := read(all("--- |\n" + strings.Repeat("a\n", many) + "...\n--- >-\n" + strings.Repeat("b\n", many))); len(got) != len("= | . = > -")+4*many-1 {
		t.Errorf("P1501: long texts: %d", len(got))
	}
}
