package flow

import (
	"marginalia/api"
	"marginalia/double"
	"marginalia/fold"
	"marginalia/lines"
	"marginalia/places"
	"marginalia/plain"
	"marginalia/props"
	"marginalia/single"
	"marginalia/utf"
)

// Properties are a node's anchor and tag; Behind: the place behind the last one that it has, or where they were looked for.
type Properties struct {
	Anchor, Tag string
	Behind      places.Place
}

// Some tells whether there is one. (No anchor and no tag is an empty text.)
func (x Properties) Some() bool {
	return x.Anchor != "" || x.Tag != ""
}

// begin reads the node to which w.at goes on: of a collection its properties and the sign that opens it.
func (w *walk) begin() api.Errno {
	has, stands, e := w.properties()
	switch {
	case e != api.OK:
		return e
	case !stands:
		return w.nothing(has)
	}
	switch sign := w.Rest(w.at)[0]; sign {
	case '*':
		return w.alias(has)
	case '"', '\'':
		return w.quoted(has, sign)
	case '[', '{':
		return w.opens(has, sign)
	}
	withFlow := !w.block || w.open.Size() > 0
	if plain.Begins(w.Rest(w.at), withFlow) {
		w.plainText(has, withFlow)
		return api.OK
	}
	return w.nothing(has)
}

// properties reads the properties ahead of a node, and goes on to it; false: it is over.
func (w *walk) properties() (Properties, bool, api.Errno) {
	has := Properties{Behind: w.at}
	for {
		p, stands, e := w.next(w.at)
		if e != api.OK || !stands {
			return has, false, e
		}
		w.at = p
		switch w.Rest(p)[0] {
		case '&':
			has.Anchor, e = w.name(has.Anchor, 1, props.Anchor)
		case '!':
			has.Tag, e = w.name(has.Tag, 0, props.Tag)
		default:
			return has, true, api.OK
		}
		if e != api.OK {
			return Properties{}, false, e
		}
		has.Behind = w.at
	}
}

// name reads a name by a call of package props, from so many code points behind w.at on; had: the one of its kind that there is already.
func (w *walk) name(had string, ahead int, read func([]int) (string, int, bool)) (string, api.Errno) {
	from := w.at.Plus(ahead)
	name, size, right := read(w.Rest(from))
	if had != "" || !right || !w.endsName(from.Plus(size)) {
		return "", api.ErrSyntax
	}
	w.at = from.Plus(size)
	return name, api.OK
}

// alias reads an alias.
func (w *walk) alias(has Properties) api.Errno {
	name, e := w.name("", 1, props.Anchor)
	if e != api.OK || has.Some() {
		return api.ErrSyntax
	}
	w.tell(api.Event{Kind: api.EAlias, Anchor: name}, 0)
	return api.OK
}

// opens reads the sign that opens a collection.
func (w *walk) opens(has Properties, sign int) api.Errno {
	if w.tooDeep(0) {
		return api.ErrDeep
	}
	kind, closer := api.ESeq, int(']')
	if sign == '{' {
		kind, closer = api.EMap, '}'
	}
	w.told = append(w.told, api.Event{Kind: kind, Tag: has.Tag, Anchor: has.Anchor, Flag: true})
	w.open.Push(level{closer: closer})
	w.at.At++
	return api.OK
}

// quoted reads a text between quotes of that kind.
func (w *walk) quoted(has Properties, quote int) api.Errno {
	end, style := single.End, api.SSingle
	if quote == '"' {
		end, style = double.End, api.SDouble
	}
	w.at.At++
	list, e := w.upTo(end)
	if e != api.OK {
		return e
	}
	var text []int
	if quote == '"' {
		text, e = double.Read(list)
	} else {
		text = single.Read(list)
	}
	if e != api.OK {
		return e
	}
	w.scalar(has, text, style)
	return api.OK
}

// upTo answers the lines from w.at on up to the quote that closes them, which end finds in one of them, and goes behind it.
func (w *walk) upTo(end func([]int) (int, bool)) ([][]int, api.Errno) {
	var list [][]int
	for p := range w.From(w.at) {
		line, isFirst := w.Lines[p.Line], p.Line == w.at.Line
		// It is over at a Marker, which is no line of the text: its Indent does not count.
		if !isFirst && lines.Marker(line) != 0 {
			break
		}
		if !isFirst && !lines.Empty(line) && line.Indent <= w.n {
			return nil, api.ErrIndent
		}
		rest := w.Rest(p)
		if size, closed := end(rest); closed {
			w.at = p.Plus(size + 1)
			return append(list, rest[:size]), api.OK
		}
		list = append(list, rest)
	}
	return nil, api.ErrSyntax
}

// plainText reads a plain text.
func (w *walk) plainText(has Properties, withFlow bool) {
	var list [][]int
	for p, more := w.at, true; more; p, more = w.further(withFlow) {
		if len(list) > 0 {
			list = append(list, make([][]int, p.Line-w.at.Line-1)...)
		}
		size := plain.End(w.Rest(p), withFlow)
		list = append(list, w.Rest(p)[:size])
		w.at = p.Plus(size)
	}
	w.scalar(has, fold.Flow(list), api.SPlain)
}

// further answers the beginning of the next line, past empty ones, of the plain text that ends at w.at so far; false: there is none.
func (w *walk) further(withFlow bool) (places.Place, bool) {
	for p := range w.From(w.at) {
		line := w.Lines[p.Line]
		if len(w.Rest(w.PastBlanks(p))) == 0 {
			continue
		}
		if p.Line == w.at.Line || lines.Marker(line) != 0 || line.Indent <= w.n || lines.Bare(line) {
			break
		}
		return p, plain.End(line.Text, withFlow) > 0
	}
	return places.Place{}, false
}

// nothing tells the empty node behind properties; it has no place without them.
func (w *walk) nothing(has Properties) api.Errno {
	if !has.Some() {
		return api.ErrSyntax
	}
	w.at = has.Behind
	w.empty(has)
	return api.OK
}

// empty tells an empty node.
func (w *walk) empty(has Properties) {
	w.scalar(has, nil, api.SPlain)
}

// scalar tells a scalar with that text.
func (w *walk) scalar(has Properties, text []int, style int) {
	w.tell(api.Event{Kind: api.EScalar, Text: string(utf.Bytes(text)), Tag: has.Tag, Anchor: has.Anchor, Style: style}, 0)
}
