package flow

import (
	"math/rand"
	"slices"
	"strings"
	"testing"

	"marginalia/api"
	"marginalia/chars"
	"marginalia/double"
	"marginalia/events"
	"marginalia/fold"
	"marginalia/lines"
	"marginalia/plain"
	"marginalia/props"
	"marginalia/single"
)

// other is another way to P1301 and P1302: calls within calls, sentence by sentence as the chapter goes, over Rest alone; an error is thrown.
type other struct {
	l     []api.Line
	n     int
	block bool // plain texts in no collection are read without flow
}

// spot is a line and a column.
type spot struct{ line, column int }

// part is a node with the spot behind it; sealed: it ended with a quote, ] or }.
type part struct {
	l      []api.Event
	end    spot
	sealed bool
}

// caught does it, and answers the error that was thrown.
func caught(do func()) (e api.Errno) {
	defer func() {
		if x := recover(); x != nil {
			e = x.(api.Errno)
		}
	}()
	do()
	return api.OK
}

// need throws e if it does not hold.
func need(holds bool, e api.Errno) {
	if !holds {
		panic(e)
	}
}

func (o *other) rest(s spot) []int {
	return Rest(o.l, s.line, s.column)
}

func (o *other) is(s spot, signs string) bool {
	rest := o.rest(s)
	return len(rest) > 0 && rest[0] > 0 && strings.ContainsRune(signs, rune(rest[0]))
}

// alone tells whether that sign stands there with no safe one behind it.
func (o *other) alone(s spot, sign string) bool {
	rest := o.rest(s)
	return o.is(s, sign) && (len(rest) == 1 || !chars.Print(rest[1]) || slices.Contains([]int{9, 32, 10, 13, 65279, ',', '[', ']', '{', '}'}, rest[1]))
}

// goes tells where a spot goes on to; false: over.
func (o *other) goes(s spot) (spot, bool) {
	for first := s.line; s.line < len(o.l); s = (spot{s.line + 1, 0}) {
		x := o.l[s.line]
		if s.line > first && lines.Marker(x) > 0 {
			return spot{}, false
		}
		need(s.line == first || lines.Bare(x) || x.Indent > o.n, api.ErrIndent)
		for o.is(s, " \t") {
			s.column++
		}
		remark := o.is(s, "#") && (s.column == 0 || o.is(spot{s.line, s.column - 1}, " \t"))
		if len(o.rest(s)) > 0 && !remark {
			return s, true
		}
	}
	return spot{}, false
}

// must goes on where it may not be over.
func (o *other) must(s spot) spot {
	s, stands := o.goes(s)
	need(stands, api.ErrSyntax)
	return s
}

// named reads a name from s on.
func (o *other) named(s spot, read func([]int) (string, int, bool)) (string, spot) {
	name, size, right := read(o.rest(s))
	need(right, api.ErrSyntax)
	s.column += size
	need(len(o.rest(s)) == 0 || o.is(s, " \t,[]{}"), api.ErrSyntax)
	return name, s
}

// node reads the node to which s goes on.
func (o *other) node(s spot, deep int) part {
	x := api.Event{}
	behind := spot{-1, -1}
	s, stands := o.goes(s)
	for stands && o.is(s, "&!") {
		if o.is(s, "&") {
			need(x.Anchor == "", api.ErrSyntax)
			x.Anchor, behind = o.named(spot{s.line, s.column + 1}, props.Anchor)
		} else {
			need(x.Tag == "", api.ErrSyntax)
			x.Tag, behind = o.named(s, props.Tag)
		}
		s, stands = o.goes(behind)
	}
	inFlow := !o.block || deep > 0
	switch {
	case !stands:
	case o.is(s, "*"):
		need(behind.line < 0, api.ErrSyntax)
		x.Kind = api.EAlias
		x.Anchor, s = o.named(spot{s.line, s.column + 1}, props.Anchor)
		return part{[]api.Event{x}, s, false}
	case o.is(s, "\"'"):
		return o.quoted(s, x)
	case o.is(s, "["):
		return o.brackets(s, x, deep)
	case o.is(s, "{"):
		return o.braces(s, x, deep)
	case plain.Begins(o.rest(s), inFlow):
		return o.plain(s, x, inFlow)
	}
	need(behind.line >= 0, api.ErrSyntax)
	return part{[]api.Event{filled(x, nil, api.SPlain)}, behind, false}
}

// filled is a scalar with the properties of x.
func filled(x api.Event, text []int, style int) api.Event {
	var b strings.Builder
	for _, c := range text {
		b.WriteRune(rune(c))
	}
	x.Kind, x.Text, x.Style = api.EScalar, b.String(), style
	return x
}

func (o *other) quoted(s spot, x api.Event) part {
	isDouble := o.is(s, "\"")
	var list [][]int
	s.column++
	for first := s.line; ; s = (spot{s.line + 1, o.l[s.line+1].Indent}) {
		if s.line > first {
			line := o.l[s.line]
			need(lines.Marker(line) == 0, api.ErrSyntax)
			need(lines.Empty(line) || line.Indent > o.n, api.ErrIndent)
		}
		rest := o.rest(s)
		size, closed := single.End(rest)
		if isDouble {
			size, closed = double.End(rest)
		}
		if closed {
			list = append(list, rest[:size])
			s.column += size + 1
			break
		}
		list = append(list, rest)
		need(s.line+1 < len(o.l), api.ErrSyntax)
	}
	if !isDouble {
		return part{[]api.Event{filled(x, single.Read(list), api.SSingle)}, s, true}
	}
	text, e := double.Read(list)
	need(e == api.OK, e)
	return part{[]api.Event{filled(x, text, api.SDouble)}, s, true}
}

func (o *other) plain(s spot, x api.Event, inFlow bool) part {
	size := plain.End(o.rest(s), inFlow)
	list := [][]int{o.rest(s)[:size]}
	s.column += size
	for {
		next := s.line + 1
		for next < len(o.l) && lines.Empty(o.l[next]) {
			next++
		}
		if !lines.Empty(api.Line{Text: o.rest(s)}) || next == len(o.l) {
			break
		}
		line := o.l[next]
		size := plain.End(line.Text, inFlow)
		if lines.Marker(line) > 0 || line.Indent <= o.n || lines.Bare(line) || size == 0 {
			break
		}
		for range next - s.line - 1 {
			list = append(list, []int{})
		}
		list = append(list, line.Text[:size])
		s = spot{next, line.Indent + size}
	}
	return part{[]api.Event{filled(x, fold.Flow(list), api.SPlain)}, s, false}
}

// value reads what comes behind a key that ended so; closer: what closes the collection around it.
func (o *other) value(key part, closer string, deep int) ([]api.Event, spot) {
	s := o.must(key.end)
	if !o.sign(s, key) {
		return []api.Event{filled(api.Event{}, nil, api.SPlain)}, s
	}
	s = o.must(spot{s.line, s.column + 1})
	if o.is(s, ","+closer) {
		return []api.Event{filled(api.Event{}, nil, api.SPlain)}, s
	}
	v := o.node(s, deep)
	return v.l, v.end
}

// sign tells whether a sign of value stands at s.
func (o *other) sign(s spot, key part) bool {
	return o.alone(s, ":") || o.is(s, ":") && key.sealed && key.end == s
}

// asked reads the key behind a ? at s.
func (o *other) asked(s spot, closer string, deep int) part {
	s = o.must(spot{s.line, s.column + 1})
	if o.is(s, ","+closer) || o.alone(s, ":") {
		return part{[]api.Event{filled(api.Event{}, nil, api.SPlain)}, s, false}
	}
	return o.node(s, deep)
}

func (o *other) braces(s spot, x api.Event, deep int) part {
	return o.collection(s, x, deep, api.EMap, "}", func(s spot, deep int) ([]api.Event, spot) {
		var key part
		if o.alone(s, "?") {
			key = o.asked(s, "}", deep)
		} else {
			key = o.node(s, deep)
		}
		value, s := o.value(key, "}", deep)
		return append(key.l, value...), s
	})
}

func (o *other) brackets(s spot, x api.Event, deep int) part {
	return o.collection(s, x, deep, api.ESeq, "]", func(s spot, deep int) ([]api.Event, spot) {
		var key part
		if o.alone(s, "?") {
			need(deep < api.MaxDepth, api.ErrDeep)
			key = o.asked(s, "]", deep+1)
		} else {
			key = o.node(s, deep)
			sign := o.must(key.end)
			if !o.sign(sign, key) || s.line != sign.line || sign.column > s.column+api.MaxKey {
				return key.l, key.end
			}
			row := slices.Concat([]api.Event{{Kind: api.EDoc}}, key.l, []api.Event{{Kind: api.EDone}})
			need(deep+1+events.Depth(row) <= api.MaxDepth, api.ErrDeep)
		}
		value, s := o.value(key, "]", deep+1)
		return slices.Concat([]api.Event{{Kind: api.EMap, Flag: true}}, key.l, value, []api.Event{{Kind: api.EMapEnd}}), s
	})
}

// collection reads a collection of such entries.
func (o *other) collection(s spot, x api.Event, deep, kind int, closer string, entry func(spot, int) ([]api.Event, spot)) part {
	need(deep < api.MaxDepth, api.ErrDeep)
	x.Kind, x.Flag = kind, true
	l := []api.Event{x}
	s = o.must(spot{s.line, s.column + 1})
	for !o.is(s, closer) {
		more, end := entry(s, deep+1)
		l = append(l, more...)
		s = o.must(end)
		need(o.is(s, ","+closer), api.ErrSyntax)
		if o.is(s, ",") {
			s = o.must(spot{s.line, s.column + 1})
		}
	}
	return part{append(l, api.Event{Kind: kind + 1}), spot{s.line, s.column + 1}, true}
}

// otherNode is what the other way tells of Node.
func otherNode(l []api.Line, line, column, n, deep int) string {
	if line < 0 || line >= len(l) || column < 0 {
		return "ErrSyntax"
	}
	o := other{l: l, n: n}
	var x part
	if e := caught(func() { x = o.node(spot{line, column}, deep) }); e != api.OK {
		return nameOf(e)
	}
	return show(x.l, x.end.line, x.end.column)
}

// otherKey is what the other way tells of Key; -1: there is none.
func otherKey(l []api.Line, line, column int) int {
	if line < 0 || line >= len(l) {
		return -1
	}
	o := other{l: l[line : line+1], block: true}
	s := spot{0, column}
	if o.is(s, " \t") {
		return -1
	}
	colon := -1
	caught(func() {
		end := o.node(s, 0).end
		for o.is(end, " \t") {
			end.column++
		}
		behind := o.rest(spot{0, end.column + 1})
		if o.is(end, ":") && (len(behind) == 0 || chars.Blank(behind[0])) && end.column-column <= api.MaxKey {
			colon = end.column
		}
	})
	return colon
}

// hold holds both ways against each other: from the beginning of the text on, within n, in so many collections.
func hold(t *testing.T, s string, n, deep int) {
	l := all(s)
	if got, want := read(l, 0, 0, n, deep), otherNode(l, 0, 0, n, deep); got != want {
		t.Errorf("P1301: %q within %d, %d: %s, not %s", s, n, deep, got, want)
	}
}

// holdKey holds both ways to a key at the text's beginning against each other.
func holdKey(t *testing.T, s string) {
	l := all(s)
	if got, want := keyAt(l, 0, 0), otherKey(l, 0, 0); got != want {
		t.Errorf("P1302: %q: %d, not %d", s, got, want)
	}
}

// eachText does it with every text of at most so many of these signs.
func eachText(signs string, most int, do func(s string)) {
	list := []rune(signs)
	var add func(s string, left int)
	add = func(s string, left int) {
		do(s)
		for _, c := range list {
			if left > 0 {
				add(s+string(c), left-1)
			}
		}
	}
	add("", most)
}

// TestAllTexts: P1301: every short text of the signs that matter, held against the other way.
func TestAllTexts(t *testing.T) {
	eachText("a ,[]{}:?'\"&*!#\n\t-", 4, func(s string) {
		hold(t, s, -1, 0)
		hold(t, s, 0, 199)
	})
	eachText("a ,]:?&'\n", 5, func(s string) {
		hold(t, "["+s, -1, 0)
		hold(t, "["+s+"]", 0, 198)
	})
	eachText("a ,}:?&'\n", 5, func(s string) {
		hold(t, "{"+s, -1, 0)
		hold(t, "{"+s+"}", 0, 198)
	})
	eachText("a :[]{}", 6, func(s string) {
		hold(t, "["+s+"]", -1, 197)
		hold(t, "{"+s+"}", -1, 197)
	})
}

// TestAllLines: P1301: every short text on several lines, held against the other way.
func TestAllLines(t *testing.T) {
	eachText("a \n#\t", 7, func(s string) {
		hold(t, s, 0, 0)
		hold(t, "["+s+"]", 1, 0)
		hold(t, "&b"+s+",", 0, 0)
	})
	eachText("a' \n\\\"-", 5, func(s string) {
		hold(t, "\""+s+"\"", 0, 0)
		hold(t, "'"+s+"'", 0, 0)
		for n := -1; n < 2; n++ {
			hold(t, "'a\n---"+s+"\n'", n, 0)
			hold(t, "[\""+s+"\n...", n, 0)
		}
	})
}

// TestAllKeys: P1302: every short line of the signs that matter, held against the other way.
func TestAllKeys(t *testing.T) {
	eachText("a ,[]{}:?'\"&*!#\t-", 4, func(s string) {
		holdKey(t, s)
		holdKey(t, s+": b")
	})
	eachText("a :[]{}',", 5, func(s string) {
		holdKey(t, "["+s+"]:")
		holdKey(t, "{"+s+"} : a")
		holdKey(t, "&a "+s)
	})
	eachText("a :&!#\n", 5, func(s string) {
		holdKey(t, s+":")
		holdKey(t, "!"+s+" :")
	})
}

// pieces are what long texts are made of.
func pieces() []string {
	return []string{
		"a", "b c", " ", "  ", ", ", ",", ": ", ":", " :", "? ", "?", "[", "]", "{", "}", "[", "]", "{", "}", "[]", "{}", "'", "\"", "'x'", "\"y\"", "'z':", "\"\\n\"", "\"\\ud800\"", "\"\\q\"",
		"&a ", "&b", "!t ", "!!s ", "!<u> ", "*a ", "*b", "#", " #", " # c\n", "\n", "\n ", "\n  ", "\n\n ", "\n\t", "\n   ", "\n---\n", "\n...", "- ", "-1", "\t", "k: v", "k: v, ", "[a]: ", "{a: b}, ", "x, y", "é😀", "\u0085", "\ufeff", "%", "@",
	}
}

// TestLongTexts: P1301, P1302: texts of many pieces, held against the other way.
func TestLongTexts(t *testing.T) {
	from := rand.New(rand.NewSource(13))
	list := pieces()
	right := 0
	for range 60000 {
		var b strings.Builder
		for range 1 + from.Intn(14) {
			b.WriteString(list[from.Intn(len(list))])
		}
		s := b.String()
		for _, begin := range []string{"", "[", "{"} {
			n, deep := from.Intn(4)-1, []int{0, 190, 197, 198, 199, 200, -3}[from.Intn(7)]
			hold(t, begin+s, n, deep)
			holdKey(t, begin+s)
			if from.Intn(2) == 0 {
				s += []string{"]", "}", "]]", "]}", "}]", ", a]", ": b}"}[from.Intn(7)]
			}
			if !strings.HasPrefix(read(all(begin+s), 0, 0, n, 0), "Err") {
				right++
			}
		}
	}
	if right < 3000 {
		t.Errorf("no more than %d of the long texts were right", right)
	}
}

// grown is a text of a node with that many nodes or less in each other, with blanks and ends of lines wherever they may stand.
func grown(from *rand.Rand, deep int) string {
	gap := func() string {
		return []string{"", "", "", " ", "  ", "\t", "\n ", " # c\n  ", "\n\n \t", "\n#c\n "}[from.Intn(10)]
	}
	leaf := []string{"a", "b c", "x\n y", "'q'", "'q\n\n r'", "\"d\"", "\"\\\n e\"", "*r ", "&n ", "!t ", "-1", "?q", "a:b", "&n !t p", "!<u> &m 'o'", "::"}
	if deep == 0 || from.Intn(3) == 0 {
		return leaf[from.Intn(len(leaf))]
	}
	var b strings.Builder
	braces := from.Intn(2) == 0
	signs := "[]"
	if braces {
		signs = "{}"
	}
	b.WriteString([]string{"", "", "&n ", "!t\n ", "!t &n"}[from.Intn(5)] + signs[:1] + gap())
	for count := from.Intn(4); count > 0; count-- {
		b.WriteString([]string{"", "", "? ", "?" + gap()}[from.Intn(4)] + grown(from, deep-1) + gap())
		if braces || from.Intn(3) == 0 {
			b.WriteString([]string{": ", ":" + gap(), ": " + gap()}[from.Intn(3)] + grown(from, deep-1) + gap())
		}
		if count > 1 || from.Intn(2) == 0 {
			b.WriteString("," + gap())
		}
	}
	return b.String() + signs[1:]
}

// TestGrown: P1301, P1302: texts that are mostly right, held against the other way, from each of their places on.
func TestGrown(t *testing.T) {
	from := rand.New(rand.NewSource(1313))
	right := 0
	for range 15000 {
		s := grown(from, 1+from.Intn(4))
		n := []int{-1, 0, 0, 1}[from.Intn(4)]
		hold(t, s, n, 0)
		hold(t, s, n, 195+from.Intn(6))
		holdKey(t, s)
		holdKey(t, strings.ReplaceAll(s, "\n", " ")+[]string{":", " : ", ": b", ":b"}[from.Intn(4)])
		l := all(s)
		if !strings.HasPrefix(read(l, 0, 0, n, 0), "Err") {
			right++
		}
		line := from.Intn(len(l))
		column := from.Intn(l[line].Indent + len(l[line].Text) + 3)
		if got, want := read(l, line, column, n, 0), otherNode(l, line, column, n, 0); got != want {
			t.Errorf("P1301: %q at %d, %d within %d: %s, not %s", s, line, column, n, got, want)
		}
		if got, want := keyAt(l, line, column), otherKey(l, line, column); got != want {
			t.Errorf("P1302: %q at %d, %d: %d, not %d", s, line, column, got, want)
		}
	}
	if right < 3000 {
		t.Errorf("no more than %d of the grown texts were right", right)
	}
}
