package parser

import (
	"math/rand"
	"strings"
	"testing"

	"marginalia/api"
)

// grower makes a text, and the events that it must be read as, side by side.
type grower struct {
	from *rand.Rand
	b    strings.Builder
	want []api.Event
	raw  bool // a text of whole lines stands at the end: a further line may not be added for nothing
}

// grown is a text of a node with so many nodes or less in each other, and its events.
func grown(from *rand.Rand, deep int) (string, []api.Event) {
	g := grower{from: from}
	if from.Intn(3) == 0 {
		g.b.WriteString(strings.Repeat(" ", from.Intn(3)))
	}
	g.node(-1, true, false, deep)
	if !g.raw && from.Intn(3) == 0 {
		g.line(0)
	}
	return g.b.String(), g.want
}

// one is one of these.
func (g *grower) one(list ...string) string {
	return list[g.from.Intn(len(list))]
}

// column is the one behind what there is.
func (g *grower) column() int {
	s := g.b.String()
	return len([]rune(s[strings.LastIndexByte(s, '\n')+1:]))
}

// line begins a line of that Indent, with lines that mean nothing ahead of it.
func (g *grower) line(indent int) {
	if !g.raw {
		g.b.WriteString(g.one("", "", "", " ", "\t", " # c", "\t# - d: e"))
		for range g.from.Intn(2) * g.from.Intn(3) {
			g.b.WriteString("\n" + g.one("", "#", "  ", " # c", "\t", "\t#", "      # c"))
		}
	}
	g.raw = false
	g.b.WriteString("\n" + strings.Repeat(" ", indent))
}

// gap parts a sign from what stands behind it.
func (g *grower) gap() {
	if g.column() > 0 && !strings.HasSuffix(g.b.String(), " ") {
		g.b.WriteString(g.one(" ", " ", " ", "  ", "\t"))
	}
}

// properties makes none, one or both.
func (g *grower) properties() api.Event {
	var x api.Event
	g.gap()
	switch g.from.Intn(9) {
	case 0:
		x.Anchor = "x"
		g.b.WriteString("&x")
	case 1:
		x.Tag = "!t"
		g.b.WriteString("!t")
	case 2:
		x.Anchor, x.Tag = "y", "<u"
		g.b.WriteString(g.one("&y !<u>", "!<u> &y"))
	}
	return x
}

// node makes a node within n, behind a sign or at the beginning.
func (g *grower) node(n int, lead, pair bool, deep int) {
	x := g.properties()
	if x != (api.Event{}) {
		lead = false
	}
	kind := g.from.Intn(8)
	if deep == 0 {
		kind %= 6
	}
	if kind > 5 && !lead || g.from.Intn(5) == 0 {
		indent := n + 1 + g.from.Intn(3)
		if kind == 6 && pair && g.from.Intn(2) == 0 {
			indent = n
		}
		g.line(indent)
		if indent > n && x.Anchor == "" && x.Tag != "" && g.from.Intn(3) == 0 {
			x.Anchor = "z"
			g.b.WriteString("&z")
			g.line(n + 1)
			if kind == 6 && pair && g.from.Intn(2) == 0 {
				g.b.WriteString("  ")
			}
		}
	} else {
		g.gap()
	}
	switch kind {
	case 6:
		g.sequence(x, deep)
	case 7:
		g.mapping(x, deep)
	default:
		g.leaf(x, n, kind)
	}
}

// leaf makes a node without further nodes, or one in brackets or braces.
func (g *grower) leaf(x api.Event, n, kind int) {
	more := "\n" + strings.Repeat(" ", n+1+g.from.Intn(2))
	switch kind {
	case 0:
		g.scalar(x, "", "", api.SPlain)
	case 1:
		text := g.one("a", "b c", "-1", "?q", "a:b", "x#y", ":z", "a, [b]", "é😀", "::a")
		written := text
		if g.from.Intn(3) == 0 {
			text, written = text+" d\ne", text+more+"d  "+"\n"+more+"e"
		}
		g.scalar(x, written, text, api.SPlain)
	case 2:
		g.scalar(x, "'q: #"+more+"- r'", "q: # - r", api.SSingle)
	case 3:
		g.scalar(x, "\"\\n"+more+"? s\"", "\n ? s", api.SDouble)
	case 4:
		g.raw = true
		sign, text, style := "|", "t: u\n- v", api.SLiteral
		if g.from.Intn(2) == 0 {
			sign, text, style = ">", "t: u - v", api.SFolded
		}
		end := g.one("", "-", "+")
		if end != "-" {
			g.scalar(x, sign+end+" # c"+more+"t: u"+more+"- v", text+"\n", style)
		} else {
			g.scalar(x, sign+end+more+"t: u"+more+"- v", text, style)
		}
	case 5:
		if (x == api.Event{}) && g.from.Intn(2) == 0 {
			g.b.WriteString("*r")
			g.want = append(g.want, api.Event{Kind: api.EAlias, Anchor: "r"})
			return
		}
		g.brackets(x, more)
	}
}

// scalar makes a scalar that is written so.
func (g *grower) scalar(x api.Event, written, text string, style int) {
	x.Kind, x.Text, x.Style = api.EScalar, text, style
	g.b.WriteString(written)
	g.want = append(g.want, x)
}

// brackets makes a sequence in brackets, with a pair in braces in it; gap stands where a line may end.
func (g *grower) brackets(x api.Event, gap string) {
	x.Kind, x.Flag = api.ESeq, true
	g.want = append(g.want, x, api.Event{Kind: api.EMap, Flag: true})
	g.b.WriteString("[" + gap + "{")
	g.scalar(api.Event{}, "a", "a", api.SPlain)
	g.scalar(api.Event{}, ": "+gap+"'b'", "b", api.SSingle)
	g.b.WriteString("}," + gap + "]")
	g.want = append(g.want, api.Event{Kind: api.EMapEnd}, api.Event{Kind: api.ESeqEnd})
}

// sequence makes one from here on.
func (g *grower) sequence(x api.Event, deep int) {
	c := g.column()
	x.Kind = api.ESeq
	g.want = append(g.want, x)
	for count := g.from.Intn(3); ; count-- {
		g.b.WriteString("-")
		g.node(c, true, false, deep-1)
		if count == 0 {
			break
		}
		g.line(c)
	}
	g.want = append(g.want, api.Event{Kind: api.ESeqEnd})
}

// mapping makes one from here on.
func (g *grower) mapping(x api.Event, deep int) {
	c := g.column()
	x.Kind = api.EMap
	g.want = append(g.want, x)
	for count := g.from.Intn(3); ; count-- {
		g.pair(c, deep)
		if count == 0 {
			break
		}
		g.line(c)
	}
	g.want = append(g.want, api.Event{Kind: api.EMapEnd})
}

// pair makes a pair of a mapping at column c.
func (g *grower) pair(c, deep int) {
	if g.from.Intn(3) > 0 {
		g.key()
		g.b.WriteString(":")
		g.node(c, false, true, deep-1)
		return
	}
	g.b.WriteString("?")
	g.node(c, true, false, deep-1)
	if g.from.Intn(3) == 0 {
		g.want = append(g.want, api.Event{Kind: api.EScalar, Style: api.SPlain})
		return
	}
	g.line(c)
	g.b.WriteString(":")
	g.node(c, true, false, deep-1)
}

// key makes a key of one line.
func (g *grower) key() {
	var x api.Event
	if g.from.Intn(4) == 0 {
		x.Anchor = "k"
		g.b.WriteString("&k ")
	}
	switch g.from.Intn(6) {
	case 0:
		g.scalar(x, "'q: r'", "q: r", api.SSingle)
	case 1:
		g.scalar(x, "\"\\t\" ", "\t", api.SDouble)
	case 2:
		g.brackets(x, " ")
	case 3:
		if x.Anchor == "" {
			g.b.WriteString("*r\t")
			g.want = append(g.want, api.Event{Kind: api.EAlias, Anchor: "r"})
			return
		}
		g.scalar(x, "", "", api.SPlain)
	default:
		g.scalar(x, g.one("k", "k  ", "k\t"), "k", api.SPlain)
	}
}

// TestGrown: P1401: texts of every shape are read as what they were made of.
func TestGrown(t *testing.T) {
	t.Parallel()
	from := rand.New(rand.NewSource(114))
	for range 60000 {
		s, want := grown(from, from.Intn(5))
		l := all(s)
		if got, want := read(l, 0, 0), show(want, len(l)); got != want {
			t.Errorf("P1401: %q: %s, not %s", s, got, want)
		}
		marked := all("x: y\n" + s + "\n---" + "\n- z")
		if got, want := read(marked, 1, 0), show(want, len(l)+1); got != want {
			t.Errorf("P1401: %q ahead of a Marker: %s, not %s", s, got, want)
		}
	}
}
