package load

import (
	"math/rand"
	"slices"
	"strconv"
	"strings"
	"testing"

	"marginalia/api"
	"marginalia/events"
	"marginalia/lines"
	"marginalia/props"
	"marginalia/schema"
	"marginalia/stream"
	"marginalia/utf"
)

// otherEvents is a second way to what Events tells.
func otherEvents(text string) ([]api.Event, api.Errno) {
	points, wrong := utf.Points([]byte(text))
	list, e := lines.Read(points)
	if wrong == api.OK {
		wrong = e
	}
	told, e := stream.Read(list)
	if wrong == api.OK {
		wrong = e
	}
	if wrong != api.OK {
		return nil, wrong
	}
	return told, api.OK
}

// thing is a node with its Kids themselves, not their numbers.
type thing struct {
	kind      int
	tag, text string
	plain     bool
	kids      []*thing
	number    int
	class     string // what is known to be alike is named alike
}

// builder makes things of events, one within the other.
type builder struct {
	rest  []api.Event
	limit api.Limits
	all   []*thing
	names map[string]*thing
	deep  int
	wrong api.Errno
}

// fail keeps the first error.
func (o *builder) fail(is bool, e api.Errno) {
	if is && o.wrong == api.OK {
		o.wrong = e
	}
}

// node makes what the next events tell.
func (o *builder) node() *thing {
	x := o.rest[0]
	o.rest = o.rest[1:]
	if x.Kind == api.EAlias {
		known := o.names[x.Anchor]
		o.fail(known == nil, api.ErrAlias)
		return known
	}
	kind := map[int]int{api.EScalar: api.NScalar, api.ESeq: api.NSeq, api.EMap: api.NMap}[x.Kind]
	made := &thing{kind: kind, tag: x.Tag, text: x.Text, plain: x.Style == api.SPlain, number: len(o.all)}
	if kind != api.NScalar {
		o.deep++
		o.fail(o.deep > min(o.limit.Depth, 200), api.ErrDeep)
	}
	o.all = append(o.all, made)
	o.fail(len(o.all) > min(o.limit.Nodes, 20000), api.ErrMany)
	if x.Anchor != "" {
		o.names[x.Anchor] = made
	}
	if kind != api.NScalar {
		for o.rest[0].Kind != api.ESeqEnd && o.rest[0].Kind != api.EMapEnd {
			made.kids = append(made.kids, o.node())
		}
		o.rest = o.rest[1:]
		o.deep--
	}
	return made
}

// valueOf writes what a scalar is, so that one value is written in one way; empty: it is none.
func valueOf(x *thing) string {
	v, e := schema.Value(x.tag, x.text)
	n := v.Number
	switch {
	case e != api.OK:
		return ""
	case n.What == 1:
		n.Digits, n.Exp = "inf", 0
	case n.What == 2:
		n = api.Number{Digits: "nan"}
	}
	return strconv.Itoa(v.Kind) + strconv.FormatBool(v.True) + strconv.FormatBool(n.Below) + n.Digits + "e" + strconv.Itoa(n.Exp) + strconv.Quote(v.Text)
}

// classes names alike what is alike: at first by what a thing is itself, then again and again by its Kids' names too.
func classes(all []*thing) {
	for _, x := range all {
		x.class = strconv.Itoa(x.kind) + strconv.Quote(x.tag)
		if x.kind == api.NScalar {
			x.class += valueOf(x)
		}
	}
	for range all {
		numbers := map[string]string{}
		names := make([]string, len(all))
		for at, x := range all {
			names[at] = x.class
			for _, kid := range x.kids {
				names[at] += "," + kid.class
			}
			if numbers[names[at]] == "" {
				numbers[names[at]] = strconv.Itoa(len(numbers) + 1)
			}
		}
		for at, x := range all {
			x.class = numbers[names[at]]
		}
	}
}

// twice tells whether a mapping has two keys of one class.
func twice(all []*thing) bool {
	for _, x := range all {
		met := map[string]int{}
		for at := 0; x.kind == api.NMap && at < len(x.kids); at += 2 {
			met[x.kids[at].class]++
			if met[x.kids[at].class] > 1 {
				return true
			}
		}
	}
	return false
}

// otherTag is the tag of a thing by a schema.
func otherTag(x *thing, by int) string {
	switch {
	case x.tag != "" && x.tag != "!":
		return x.tag
	case x.kind == api.NSeq:
		return y + "seq"
	case x.kind == api.NMap:
		return y + "map"
	case x.tag == "!" || !x.plain:
		return y + "str"
	}
	return schema.Resolve(api.NScalar, "", x.text, true, by)
}

// otherLoad is a second way to what Load tells, as show writes it.
func otherLoad(text string, l api.Limits, by int) string {
	if len(text) > 0 && len(text) > l.Bytes || len(text) > 1<<20 {
		return "ErrLong"
	}
	list, e := otherEvents(text)
	if e != api.OK {
		return nameOf(e)
	}
	o := builder{rest: list, limit: l}
	var roots []int
	for len(o.rest) > 0 {
		o.names = map[string]*thing{}
		o.rest = o.rest[1:]
		if root := o.node(); root != nil {
			roots = append(roots, root.number)
		}
		o.rest = o.rest[1:]
	}
	if o.wrong != api.OK {
		return nameOf(o.wrong)
	}
	kids, isGreat, isWrong := 0, false, false
	for _, x := range o.all {
		x.tag = otherTag(x, by)
		kids += len(x.kids)
		isGreat = isGreat || len(x.tag) > 1000 || !props.Valid(x.tag) || len(x.text) > 1<<18 || kids > 20000
		isWrong = isWrong || x.kind == api.NScalar && valueOf(x) == ""
	}
	switch {
	case isGreat:
		return "ErrSyntax"
	case isWrong:
		return "ErrValue"
	}
	if classes(o.all); twice(o.all) {
		return "ErrTwice"
	}
	g := api.Graph{Roots: roots}
	for _, x := range o.all {
		node := api.Node{Kind: x.kind, Tag: x.tag, Text: x.text, Plain: x.kind == api.NScalar && x.plain}
		for _, kid := range x.kids {
			node.Kids = append(node.Kids, kid.number)
		}
		g.Nodes = append(g.Nodes, node)
	}
	return show(g)
}

// checkOther: P2101, P2102: within these limits both calls tell what the second way tells. It answers what is told.
func checkOther(t *testing.T, text string, l api.Limits, by int) string {
	t.Helper()
	want, e := otherEvents(text)
	if got, wrong := Events([]byte(text)); wrong != e || !slices.Equal(got, want) {
		t.Errorf("P2101: Events of %s: %v, %v, not %v, %v", short(text), got, wrong, want, e)
	}
	got, told := made(text, l, by), otherLoad(text, l, by)
	if got != told {
		t.Errorf("P2101: %s within %v by %d: %s, not %s", short(text), l, by, short(got), short(told))
	}
	return got
}

// eachText tells all texts of at most size of these pieces.
func eachText(pieces []string, size int, tell func(string)) {
	tell("")
	if size == 0 {
		return
	}
	for _, piece := range pieces {
		eachText(pieces, size-1, func(rest string) { tell(piece + rest) })
	}
}

// TestEachText: P2101, P2102: every short text of the pieces that matter.
func TestEachText(t *testing.T) {
	t.Parallel()
	for at, x := range []struct {
		begin, pieces string
		size          int
		end           string
		least         int // how many of them are graphs
	}{
		{"", "a|1|'1'|- |: |? |\n| |[|]|{|}|,|&a |*a |!!int |---|...|#", 3, "", 500},
		{"{", "1|0x1|'1'|,|: |&a |*a |[|]|! |!!int ", 4, "}", 100},
		{"&a [", "{|}|*a |,|: |b|&a ", 5, "]", 100},
		{"--- ", "a|\n--- |\n...\n|&a |*a |[|]|%TAG !e! y\n|!e!b ", 4, "", 100},
		{"", "\xff|\xfe|\x00|a|[|\xef|\xbb|\xbf|\a|\n", 4, "", 5},
		{"a: &a 1\n", "b: |*a : |? |- |1|\n|  |*a |: ", 4, "", 20},
	} {
		graphs := 0
		eachText(strings.Split(x.pieces, "|"), x.size, func(middle string) {
			text := x.begin + middle + x.end
			got := checkOther(t, text, wide(), api.Core)
			if !strings.HasPrefix(got, "Err") {
				graphs++
				checkOther(t, text, api.Limits{Bytes: 99, Depth: 1, Nodes: 3}, api.JSON)
				checkOther(t, text, api.Limits{Bytes: len(text) - 1, Depth: 9, Nodes: 9}, api.JSON)
				checkOther(t, text, api.Limits{Bytes: len(text), Depth: 2, Nodes: 2}, api.Failsafe)
			}
		})
		if graphs < x.least {
			t.Errorf("only %d graphs in list %d", graphs, at)
		}
	}
}

// grower writes texts by chance.
type grower struct {
	from *rand.Rand
	left int // how many nodes may come, but for those that must
}

// one is one of these.
func (g *grower) one(list ...string) string {
	return list[g.from.Intn(len(list))]
}

// props are a tag and an anchor, or none.
func (g *grower) props() string {
	text := ""
	if g.from.Intn(4) == 0 {
		text += g.one("! ", "!!str ", "!x ", "!<y> ", "!e!z ", "!<"+strings.Repeat("t", 1000)+"> ")
	}
	if g.from.Intn(3) == 0 {
		text += "&" + g.one("a", "b", "c") + " "
	}
	return text
}

// scalar is one on a line, with its properties.
func (g *grower) scalar() string {
	switch g.from.Intn(9) {
	case 0:
		return g.one("!!int 1", "!!int '0x1'", "!!float 1", "!!null ''", "!!bool true", "!!float .nan", "!!int x", "!!bool yes")
	case 1:
		return "'" + g.one("", "1", "null", "a", "it''s") + "'"
	case 2:
		return "\"" + g.one("", "1", "\\x61", "\\n", "~") + "\""
	}
	return g.props() + g.one("a", "b c", "1", "0x1", "01", "1.0", "1e0", "~", "null", "true", "TRUE", "-0", "-0.0", ".nan", ".inf", "7", "8", "9", "d", "e", "f", "g")
}

// flow is a node on a line.
func (g *grower) flow() string {
	g.left--
	kind := g.from.Intn(8)
	switch {
	case kind == 0 && g.from.Intn(2) == 0:
		return "*" + g.one("a", "b", "c") + " "
	case kind < 4 || g.left < 0:
		return g.scalar()
	}
	var list []string
	for range g.from.Intn(4) {
		entry := g.flow()
		if kind >= 6 {
			entry = g.one("", "? ") + entry + " : " + g.flow()
		}
		list = append(list, entry)
	}
	text := strings.Join(list, g.one(", ", ","))
	if kind >= 6 {
		return g.props() + "{" + text + "}"
	}
	return g.props() + "[" + text + "]"
}

// block is a node on lines that stand at that column, the first one too.
func (g *grower) block(column int) string {
	g.left--
	ahead := strings.Repeat(" ", column)
	text := ""
	kind := g.from.Intn(4)
	if g.left < 0 || kind == 0 {
		return ahead + g.flow() + "\n"
	}
	for range 1 + g.from.Intn(3) {
		deeper := column + 1 + g.from.Intn(2)
		below := g.props() + "\n" + g.block(deeper)
		inline := " " + g.flow() + "\n"
		switch {
		case kind == 1:
			text += ahead + "-" + g.one(inline, inline, " "+below)
		case kind == 2:
			text += ahead + g.one("a", "b", "1", "0x1", "'c'", "*a ", "&b d", "[a]", "e", "f") + g.one(":", " :") + g.one(inline, inline, " "+below)
		default:
			text += ahead + "?" + g.one(inline, " "+below) + g.one("", ahead+":"+g.one(inline, " "+below))
		}
	}
	return text
}

// grown is a text of documents by chance, and now and then one that is spoilt.
func grown(from *rand.Rand) string {
	g := grower{from: from}
	text := ""
	for range from.Intn(4) {
		g.left = from.Intn(20)
		text += g.one("--- ", "---\n", "...\n%TAG !e! tag:e,1:\n---\n", "...\n%TAG !e! !\n--- ", "...\n")
		if strings.HasSuffix(text, "\n") {
			text += g.block(0)
		} else {
			text += g.flow() + "\n"
		}
	}
	if from.Intn(5) == 0 && text != "" {
		at := from.Intn(len(text))
		text = text[:at] + g.one("", "", " ", ",", "\n", "*a", "\xff", "]") + text[at+from.Intn(2):]
	}
	return text
}

// TestGrown: P2101, P2102: greater texts, by each schema, within limits that are great enough and not.
func TestGrown(t *testing.T) {
	t.Parallel()
	from := rand.New(rand.NewSource(21))
	told := map[string]int{}
	for range 8000 {
		text := grown(from)
		if from.Intn(4) == 0 && !strings.Contains(text, "\xff") {
			text = coded(text, 1+from.Intn(5), from.Intn(2) == 0)
		}
		list, _ := Events([]byte(text))
		exact := api.Limits{Bytes: len(text), Depth: events.Depth(list), Nodes: events.Nodes(list)}
		checkOther(t, text, exact, from.Intn(3))
		exact.Depth += from.Intn(3) - 1
		exact.Nodes += from.Intn(3) - 1
		exact.Bytes += from.Intn(4) - from.Intn(2)
		got := checkOther(t, text, exact, from.Intn(4))
		if !strings.HasPrefix(got, "Err") {
			got = "OK"
		}
		told[got]++
	}
	for _, name := range []string{"OK", "ErrSyntax", "ErrLong", "ErrDeep", "ErrMany", "ErrAlias", "ErrTag", "ErrTwice", "ErrValue"} {
		if told[name] < 40 {
			t.Errorf("%s was told %d times alone: %v", name, told[name], told)
		}
	}
}

// TestGreaterLimits: P2101: a limit's error is told only where that limit is passed; with greater ones what was told stays.
func TestGreaterLimits(t *testing.T) {
	t.Parallel()
	from := rand.New(rand.NewSource(2101))
	for range 300 {
		text := grown(from)
		list, _ := Events([]byte(text))
		deep, nodes := events.Depth(list), events.Nodes(list)
		most := made(text, wide(), api.Core)
		for _, limit := range []api.Limits{{Bytes: len(text), Depth: deep, Nodes: nodes}, {Bytes: 1 << 40, Depth: 1 << 40, Nodes: 1 << 40}, {Bytes: len(text), Depth: deep + 1, Nodes: 1 << 62}} {
			if got := made(text, limit, api.Core); got != most {
				t.Errorf("P2101: %s within %v: %s, not %s", short(text), limit, short(got), short(most))
			}
		}
		for depth := range deep + 1 {
			for count := range nodes + 1 {
				got := made(text, api.Limits{Bytes: len(text), Depth: depth, Nodes: count}, api.Core)
				if got != most && (got != "ErrDeep" || depth >= deep) && (got != "ErrMany" || count >= nodes) {
					t.Fatalf("P2101: %s within %d, %d: %s, not %s", short(text), depth, count, short(got), short(most))
				}
			}
		}
		if text != "" && made(text, api.Limits{Bytes: len(text) - 1, Depth: 200, Nodes: 20000}, api.Core) != "ErrLong" {
			t.Errorf("P2101: %s is not too long by one", short(text))
		}
	}
}

// TestAnyBytes: P2101, P2102: of any bytes a graph that is Right, or one error.
func TestAnyBytes(t *testing.T) {
	t.Parallel()
	from := rand.New(rand.NewSource(2102))
	signs := "aab01:::--??  \n\n\n[]{},,&&**!!'\"|>%#\\~.\t\r\a\x00\xff\xfe\xc3\xa9"
	for range 60000 {
		b := make([]byte, from.Intn(24))
		for at := range b {
			b[at] = signs[from.Intn(len(signs))]
		}
		checkOther(t, string(b), wide(), from.Intn(3))
	}
}
