package parser

import (
	"math/rand"
	"slices"
	"strings"
	"testing"

	"marginalia/api"
	"marginalia/block"
	"marginalia/chars"
	"marginalia/flow"
	"marginalia/fold"
	"marginalia/lines"
	"marginalia/plain"
	"marginalia/props"
	"marginalia/utf"
)

// other is another way to P1401: calls within calls, sentence by sentence as the chapter goes, over what chapters 9 to 13 list alone; an error is thrown.
type other struct{ l []api.Line }

// spot is a line and a column.
type spot struct{ line, column int }

// plus is the spot so many columns behind s.
func (s spot) plus(size int) spot {
	return spot{s.line, s.column + size}
}

// part is a node's events with the spot behind it.
type part struct {
	l   []api.Event
	end spot
}

// within is what a node's place says of it; deep: how many collections stand around it.
type within struct {
	n          int
	lead, pair bool
	deep       int
}

// caught does it, and answers the error that was thrown.
func caught(do func()) (e api.Errno) {
	defer func() {
		if x := recover(); x != nil {
			e = x.(api.Errno)
		}
	}()
	do()
	return api.OK
}

// need throws e if it does not hold.
func need(holds bool, e api.Errno) {
	if !holds {
		panic(e)
	}
}

func (o other) rest(s spot) []int {
	return flow.Rest(o.l, s.line, s.column)
}

func (o other) is(s spot, signs string) bool {
	rest := o.rest(s)
	return len(rest) > 0 && rest[0] > 0 && strings.ContainsRune(signs, rune(rest[0]))
}

// past is the spot behind the Blanks at s.
func (o other) past(s spot) spot {
	for o.is(s, " \t") {
		s.column++
	}
	return s
}

// alone tells whether that sign stands at s with nothing or a Blank behind it.
func (o other) alone(s spot, sign string) bool {
	rest := o.rest(s)
	return o.is(s, sign) && (len(rest) == 1 || chars.Blank(rest[1]))
}

// nothing tells whether nothing but Blanks and a comment stands from s on.
func (o other) nothing(s spot) bool {
	s = o.past(s)
	return len(o.rest(s)) == 0 || o.is(s, "#") && (s.column == 0 || o.is(spot{s.line, s.column - 1}, " \t"))
}

// next is the next line's beginning; false: over.
func (o other) next(s spot) (spot, bool) {
	need(o.nothing(s), api.ErrSyntax)
	for line := s.line + 1; line < len(o.l); line++ {
		x := o.l[line]
		if lines.Bare(x) {
			continue
		}
		if lines.Marker(x) > 0 {
			return spot{}, false
		}
		need(x.Text[0] != 9, api.ErrTab)
		return spot{line, x.Indent}, true
	}
	return spot{}, false
}

// key is the column of the : behind the key at s.
func (o other) key(s spot) (int, bool) {
	return flow.New(o.l).Key(s.line, s.column)
}

func (o other) node(s spot, w within) part {
	var x api.Event
	for {
		if o.nothing(s) {
			line, stands := o.next(s)
			if stands && w.pair && line.column == w.n && o.alone(line, "-") {
				return o.sequence(line, x, w.deep, true)
			}
			if !stands || line.column <= w.n {
				return part{[]api.Event{scalar(x, "", api.SPlain)}, s}
			}
			s, w.lead = line, true
		}
		s = o.past(s)
		_, isKey := o.key(s)
		switch {
		case o.alone(s, "-"):
			need(w.lead, api.ErrSyntax)
			return o.sequence(s, x, w.deep, false)
		case o.alone(s, "?") || isKey:
			need(w.lead, api.ErrSyntax)
			return o.mapping(s, x, w.deep)
		}
		s = o.properties(s, &x)
		if !o.nothing(s) {
			break
		}
	}
	return o.content(o.past(s), x, w)
}

// properties reads those on the line into x, and answers the spot behind them.
func (o other) properties(s spot, x *api.Event) spot {
	for at := s; o.is(at, "&!"); at = o.past(s) {
		into, read, from := &x.Tag, props.Tag, at
		if o.is(at, "&") {
			into, read, from = &x.Anchor, props.Anchor, at.plus(1)
		}
		name, size, right := read(o.rest(from))
		need(*into == "" && right, api.ErrSyntax)
		*into, s = name, from.plus(size)
		need(len(o.rest(s)) == 0 || o.is(s, " \t,[]{}"), api.ErrSyntax)
	}
	return s
}

// scalar is one with the properties of x.
func scalar(x api.Event, text string, style int) api.Event {
	x.Kind, x.Text, x.Style = api.EScalar, text, style
	return x
}

// content reads what stands behind properties.
func (o other) content(s spot, x api.Event, w within) part {
	if o.is(s, "|>") {
		head, _, e := block.Head(o.rest(s))
		need(e == api.OK, e)
		text, took, e := block.Read(o.l[s.line+1:], head, w.n)
		need(e == api.OK, e)
		style := map[bool]int{false: api.SLiteral, true: api.SFolded}[head.Folded]
		end := o.l[s.line+took]
		return part{[]api.Event{scalar(x, text, style)}, spot{s.line + took, end.Indent + len(end.Text)}}
	}
	var got part
	if plain.Begins(o.rest(s), false) {
		got = o.plain(s, x, w.n)
	} else {
		list, line, column, e := flow.New(o.l).Node(s.line, s.column, w.n, w.deep)
		need(e == api.OK, e)
		need(list[0].Kind != api.EAlias || x == api.Event{}, api.ErrSyntax)
		if list[0].Kind != api.EAlias {
			list[0].Anchor, list[0].Tag = x.Anchor, x.Tag
		}
		got = part{list, spot{line, column}}
	}
	need(o.nothing(got.end), api.ErrSyntax)
	return got
}

// plain reads a plain text without flow.
func (o other) plain(s spot, x api.Event, n int) part {
	size := plain.End(o.rest(s), false)
	list := [][]int{o.rest(s)[:size]}
	s = s.plus(size)
	for lines.Empty(api.Line{Text: o.rest(s)}) {
		line := s.line + 1
		for line < len(o.l) && lines.Empty(o.l[line]) {
			line++
		}
		if line == len(o.l) || lines.Marker(o.l[line]) > 0 || o.l[line].Indent <= n || lines.Bare(o.l[line]) {
			break
		}
		text := o.l[line].Text
		size := plain.End(text, false)
		if size == 0 {
			break
		}
		need(plain.Key(text, false) < 0, api.ErrSyntax)
		for range line - s.line - 1 {
			list = append(list, nil)
		}
		list = append(list, text[:size])
		s = spot{line, o.l[line].Indent + size}
	}
	return part{[]api.Event{scalar(x, string(utf.Bytes(fold.Flow(list))), api.SPlain)}, s}
}

// sequence reads one; atKey: begun by the last words of step 1.
func (o other) sequence(s spot, x api.Event, deep int, atKey bool) part {
	need(deep < api.MaxDepth, api.ErrDeep)
	x.Kind = api.ESeq
	c := s.column
	got := part{l: []api.Event{x}}
	for {
		entry := o.node(s.plus(1), within{n: c, lead: true, deep: deep + 1})
		got.l, got.end = append(got.l, entry.l...), entry.end
		line, stands := o.next(got.end)
		if !stands || line.column < c {
			break
		}
		need(line.column == c, api.ErrIndent)
		if !o.alone(line, "-") {
			need(atKey, api.ErrSyntax)
			break
		}
		s = line
	}
	got.l = append(got.l, api.Event{Kind: api.ESeqEnd})
	return got
}

func (o other) mapping(s spot, x api.Event, deep int) part {
	need(deep < api.MaxDepth, api.ErrDeep)
	x.Kind = api.EMap
	c := s.column
	got := part{l: []api.Event{x}}
	for {
		pair := o.pair(s, deep+1)
		got.l, got.end = append(got.l, pair.l...), pair.end
		line, stands := o.next(got.end)
		if !stands || line.column < c {
			break
		}
		need(line.column == c, api.ErrIndent)
		s = line
	}
	got.l = append(got.l, api.Event{Kind: api.EMapEnd})
	return got
}

// pair reads a pair of a mapping at the column of s.
func (o other) pair(s spot, deep int) part {
	w := within{n: s.column, lead: true, deep: deep}
	if o.alone(s, "?") {
		key := o.node(s.plus(1), w)
		value := part{[]api.Event{scalar(api.Event{}, "", api.SPlain)}, key.end}
		if line, stands := o.next(key.end); stands && line.column == w.n && o.alone(line, ":") {
			value = o.node(line.plus(1), w)
		}
		return part{append(key.l, value.l...), value.end}
	}
	colon, isKey := o.key(s)
	need(isKey, api.ErrSyntax)
	alone := other{[]api.Line{o.l[s.line]}}
	var x api.Event
	begin := alone.past(alone.properties(spot{0, s.column}, &x))
	var key part
	switch {
	case begin.column == colon:
		key.l = []api.Event{scalar(x, "", api.SPlain)}
	case plain.Begins(alone.rest(begin), false):
		key = alone.plain(begin, x, -1)
	default:
		list, _, _, e := flow.New(alone.l).Node(0, s.column, -1, deep)
		need(e == api.OK, e)
		key.l = list
	}
	value := o.node(spot{s.line, colon + 1}, within{n: s.column, pair: true, deep: deep})
	return part{append(key.l, value.l...), value.end}
}

// otherNode is what the other way tells.
func otherNode(l []api.Line, line, column int) string {
	if line < 0 || line >= len(l) || column < 0 || column > 0 && column > max(l[line].Indent, 0)+len(l[line].Text) {
		return "ErrArg"
	}
	o := other{l}
	var got []api.Event
	behind := len(l)
	e := caught(func() {
		x := o.node(spot{line, column}, within{n: -1, lead: column == 0})
		next, stands := o.next(x.end)
		need(!stands || next.column <= 0, api.ErrIndent)
		need(!stands, api.ErrSyntax)
		got = x.l
		for k := len(l) - 1; k > x.end.line; k-- {
			if lines.Marker(l[k]) > 0 {
				behind = k
			}
		}
	})
	if e != api.OK {
		return nameOf(e)
	}
	return show(got, behind)
}

// hold holds both ways against each other, from the beginning of the text on.
func hold(t *testing.T, s string) {
	holdAt(t, all(s), 0, 0)
}

// holdAt holds both ways against each other.
func holdAt(t *testing.T, l []api.Line, line, column int) {
	if got, want := read(l, line, column), otherNode(l, line, column); got != want {
		t.Errorf("P1401: %q at %d, %d: %s, not %s", textOf(l), line, column, got, want)
	}
}

// eachText does it with every text of at most so many of these signs.
func eachText(signs string, most int, do func(s string)) {
	list := []rune(signs)
	var add func(s string, left int)
	add = func(s string, left int) {
		do(s)
		for _, c := range list {
			if left > 0 {
				add(s+string(c), left-1)
			}
		}
	}
	add("", most)
}

// TestAllTexts: P1401: every short text of the signs that matter, held against the other way.
func TestAllTexts(t *testing.T) {
	t.Parallel()
	eachText("a -:?\n", 6, func(s string) { hold(t, s) })
	eachText("a -:#\t\n", 6, func(s string) { hold(t, s) })
	eachText("a &!\n:", 6, func(s string) { hold(t, s) })
	eachText("a: -?|>'\"[]{}&*!#,\t\n%", 4, func(s string) { hold(t, s) })
}

// TestAllBehind: P1401: every short text behind some that begin a collection, held against the other way.
func TestAllBehind(t *testing.T) {
	t.Parallel()
	for _, begin := range []string{"a:\n", "- ", "-\n ", "? ", "a: b\n", "- a\n", "? a\n", "a:\n- b\n", "a: &x\n", "&x\n", "- a:\n  ", "a:\n  b: c\n", "a: 'b'\n"} {
		eachText("a -:\n", 5, func(s string) { hold(t, begin+s) })
		eachText(" -?:|'\t\n", 4, func(s string) { hold(t, begin+s) })
	}
	eachText("1-+ a#\n", 5, func(s string) {
		hold(t, "|"+s)
		hold(t, "a: >"+s)
		hold(t, "- |"+s+"\n- b")
	})
	eachText("a -:\n", 5, func(s string) {
		l := all("--- " + s)
		holdAt(t, l, 0, 3)
		holdAt(t, l, 0, 4)
		holdAt(t, all("a\n"+s+"\n..."), 1, 0)
		hold(t, s+"\n---\nb: c")
	})
}

// TestAllShapes: P1401: lines of each kind at each of some Indents, held against the other way.
func TestAllShapes(t *testing.T) {
	t.Parallel()
	kinds := []string{"a", "- a", "-", "a:", "a: b", "? a", "?", ": a", ":", "&x", "'q'", "# c", "", "a: |", "- - a", "- b:", "\tt"}
	var add func(s string, left int)
	add = func(s string, left int) {
		if s != "" {
			hold(t, s)
		}
		if left == 0 {
			return
		}
		for _, kind := range kinds {
			for _, indent := range []string{"", " ", "  "} {
				next := indent + kind
				if s != "" {
					next = s + "\n" + next
				}
				add(next, left-1)
			}
		}
	}
	add("", 3)
	from := rand.New(rand.NewSource(14))
	right := 0
	for range 150000 {
		var list []string
		for range 4 + from.Intn(5) {
			list = append(list, strings.Repeat(" ", from.Intn(4))+kinds[from.Intn(len(kinds))])
		}
		s := strings.Join(list, "\n")
		hold(t, s)
		if !strings.HasPrefix(read(all(s), 0, 0), "Err") {
			right++
		}
	}
	if right < 1000 {
		t.Errorf("no more than %d of the texts were right", right)
	}
}

// TestLongTexts: P1401: texts of many pieces, from some of their places on, held against the other way.
func TestLongTexts(t *testing.T) {
	t.Parallel()
	list := []string{
		"a", "b c", " ", "  ", ": ", ":", ":\n", " :", "? ", "- ", "-", "- ", "-\n", "|\n", ">\n", "|-\n", ">+1\n", "|x", "[", "]", "[]", "{}", "[a]", "{a: b}", "[a,\n b]", "'", "\"", "'x'", "\"y\"", "'z': ", "\"\\n\"", "\"\\ud800\"", "\"\\q\"", "[a]: ",
		"&a ", "&b", "!t ", "!!s ", "!<u> ", "&a\n", "*a ", "*b", "*b : ", "#", " #", " # c\n", "\n", "\n ", "\n  ", "\n\n ", "\n\t", "\n   ", "\n- ", "\n  - ", "\nk: v", "\n  k: v", "\n? ", "\n: ", "\n---\n", "\n...", "\t", "k: v", "k:", "é😀", "\ufeff", "%", "@",
	}
	from := rand.New(rand.NewSource(1414))
	right := 0
	for range 150000 {
		var b strings.Builder
		for range 1 + from.Intn(12) {
			b.WriteString(list[from.Intn(len(list))])
		}
		s := b.String()
		l := all(s)
		hold(t, s)
		line := from.Intn(len(l))
		holdAt(t, l, line, from.Intn(l[line].Indent+len(l[line].Text)+2))
		if !strings.HasPrefix(read(l, 0, 0), "Err") {
			right++
		}
	}
	if right < 3000 {
		t.Errorf("no more than %d of the long texts were right", right)
	}
}

// spoilt is s with one of its signs taken out, doubled or put in the place of another one.
func spoilt(from *rand.Rand, s string) string {
	l := []rune(s)
	if len(l) == 0 {
		return s
	}
	at := from.Intn(len(l))
	switch from.Intn(4) {
	case 0:
		return string(slices.Delete(l, at, at+1))
	case 1:
		return string(slices.Insert(l, at, l[from.Intn(len(l))]))
	case 2:
		return string(slices.Insert(l, at, []rune(" \n\t-:?#|")[from.Intn(8)]))
	}
	l[at] = l[from.Intn(len(l))]
	return string(l)
}

// TestSpoilt: P1401: texts that are nearly right, held against the other way.
func TestSpoilt(t *testing.T) {
	t.Parallel()
	from := rand.New(rand.NewSource(141))
	right := 0
	for range 40000 {
		s, _ := grown(from, 1+from.Intn(4))
		hold(t, s)
		for range 3 {
			s = spoilt(from, s)
			hold(t, s)
		}
		if !strings.HasPrefix(read(all(s), 0, 0), "Err") {
			right++
		}
	}
	if right < 3000 {
		t.Errorf("no more than %d of the spoilt texts were right", right)
	}
}
