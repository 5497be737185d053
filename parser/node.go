package parser

import (
	"marginalia/api"
	"marginalia/block"
	"marginalia/flow"
	"marginalia/places"
)

// bounds are what a node's place says of it.
type bounds struct {
	n    int  // its lines behind the first one have Indents above this
	lead bool // a collection may begin on its line
	pair bool // it is the value of a key of the innermost mapping
}

// node reads the node that stands at w.at, or on a line behind it; of a collection it reads the properties alone, and opens it.
func (w *walk) node(x bounds) api.Errno {
	var has flow.Properties
	for {
		w.at = w.PastBlanks(w.at)
		if w.Ends(w.at) {
			if done, e := w.newLine(x, has); done || e != api.OK {
				return e
			}
			x.lead = true
		}
		if kind := w.collection(); kind != 0 {
			if !x.lead {
				return api.ErrSyntax
			}
			return w.opens(kind, has, false)
		}
		if e := w.properties(&has); e != api.OK {
			return e
		}
		if !w.Ends(w.PastBlanks(w.at)) {
			return w.content(x.n, has)
		}
	}
}

// newLine goes to the next line if the node stands there. Where it does not it is empty, but for a sequence at the column of its key: true.
func (w *walk) newLine(x bounds, has flow.Properties) (bool, api.Errno) {
	p, stands, e := w.next()
	switch {
	case e != api.OK:
		return false, e
	case stands && w.Lines[p.Line].Indent > x.n:
		w.at = p
		return false, api.OK
	case stands && x.pair && w.open.Top().side(w.Lines[p.Line]) == 0 && w.begins(p, '-'):
		w.at = p
		return true, w.opens(api.ESeq, has, true)
	}
	w.empty(has)
	return true, api.OK
}

// collection answers the kind of the collection that begins at w.at; 0: none does.
func (w *walk) collection() int {
	switch {
	case w.begins(w.at, '-'):
		return api.ESeq
	case w.begins(w.at, '?'):
		return api.EMap
	}
	if _, isKey := w.reader.Colon(w.at); isKey {
		return api.EMap
	}
	return 0
}

// properties reads the properties that stand from w.at on, on its line, to those that the node has.
func (w *walk) properties(has *flow.Properties) api.Errno {
	more, e := w.reader.Properties(w.at)
	if e != api.OK {
		return e
	}
	if has.Anchor != "" && more.Anchor != "" || has.Tag != "" && more.Tag != "" {
		return api.ErrSyntax
	}
	has.Anchor += more.Anchor
	has.Tag += more.Tag
	w.at = more.Behind
	return api.OK
}

// content reads what stands behind the properties, on their line.
func (w *walk) content(n int, has flow.Properties) api.Errno {
	w.at = w.PastBlanks(w.at)
	if w.Stands(w.at, '|') || w.Stands(w.at, '>') {
		return w.wholeLines(n, has)
	}
	return w.inFlow(n, has)
}

// wholeLines reads a text of the whole lines behind this one.
func (w *walk) wholeLines(n int, has flow.Properties) api.Errno {
	head, _, e := block.Head(w.Rest(w.at))
	if e != api.OK {
		return e
	}
	text, took, e := block.Read(w.Lines[w.at.Line+1:], head, n)
	if e != api.OK {
		return e
	}
	style := api.SLiteral
	if head.Folded {
		style = api.SFolded
	}
	last := w.at.Line + took
	w.at = places.Place{Line: last, At: len(w.Lines[last].Text)}
	w.scalar(has, text, style)
	return api.OK
}

// inFlow reads a node in brackets, braces or quotes, a plain text or an alias. (What may not stand behind it on its line, next tells; so also the : behind a further line of a plain text.)
func (w *walk) inFlow(n int, has flow.Properties) api.Errno {
	list, end, e := w.reader.Outer(w.at, n, w.open.Size())
	if e != api.OK {
		return e
	}
	first := &list[0]
	switch {
	case first.Kind != api.EAlias:
		first.Anchor, first.Tag = has.Anchor, has.Tag
	case has.Some():
		return api.ErrSyntax
	}
	w.told = append(w.told, list...)
	w.at = end
	return api.OK
}

// empty tells an empty node.
func (w *walk) empty(has flow.Properties) {
	w.scalar(has, "", api.SPlain)
}

// scalar tells a scalar with that text.
func (w *walk) scalar(has flow.Properties, text string, style int) {
	w.told = append(w.told, api.Event{Kind: api.EScalar, Text: text, Tag: has.Tag, Anchor: has.Anchor, Style: style})
}
