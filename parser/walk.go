package parser

import (
	"cmp"
	"math"

	"marginalia/api"
	"marginalia/flow"
	"marginalia/lines"
	"marginalia/places"
	"marginalia/stacks"
)

const tab = 9

// walk is the reading of one document's node. Collections that are open stand in a list, not in calls within calls.
type walk struct {
	places.Lines
	reader *flow.Reader // of the same lines
	at     places.Place // what stands ahead is read
	open   stacks.Stack[level]
	told   []api.Event
}

// level is a collection that is open.
type level struct {
	kind   int  // api.ESeq or api.EMap
	column uint // the sum of an Indent and a place may be too great for an int
	isNew  bool // its first entry or pair is not yet begun
	atKey  bool // a sequence at the column of the key whose value it is
	asked  bool // a key behind a ? was begun, its value is not
}

// n answers the column as far as a line's Indent is held against it: none is above the greatest int.
func (x level) n() int {
	return int(min(x.column, math.MaxInt))
}

// side answers where a line begins: below the column (-1), at it (0) or above it (1).
func (x level) side(line api.Line) int {
	if line.Indent < 0 {
		return -1
	}
	return cmp.Compare(uint(line.Indent), x.column)
}

// document reads a document's node, behind which nothing may stand.
func (w *walk) document(lead bool) api.Errno {
	e := w.node(bounds{n: -1, lead: lead})
	for e == api.OK && w.open.Size() > 0 {
		e = w.goAhead()
	}
	if e != api.OK {
		return e
	}
	p, stands, e := w.next()
	switch {
	case e != api.OK || !stands:
		return e
	case w.Lines[p.Line].Indent > 0:
		return api.ErrIndent
	}
	return api.ErrSyntax
}

// goAhead reads up to the end of the next node in the innermost collection, or ends this one.
func (w *walk) goAhead() api.Errno {
	top := w.open.Top()
	if top.isNew {
		top.isNew = false
		return w.entry()
	}
	p, stands, e := w.next()
	if e != api.OK {
		return e
	}
	for w.open.Size() > 0 {
		if more, e := w.further(p, stands); more || e != api.OK {
			return e
		}
	}
	return api.OK
}

// further reads what the innermost collection has at the next line, p; false: nothing, so that it was ended.
func (w *walk) further(p places.Place, stands bool) (bool, api.Errno) {
	top := w.open.Top()
	side := -1
	if stands {
		side = top.side(w.Lines[p.Line])
	}
	if top.asked {
		top.asked = false
		if side == 0 && w.begins(p, ':') {
			w.at = p.Plus(1)
			return true, w.node(bounds{n: top.n(), lead: true})
		}
		w.empty(flow.Properties{})
	}
	switch {
	case side > 0:
		return false, api.ErrIndent
	case side < 0 || top.atKey && !w.begins(p, '-'):
		w.close()
		return false, api.OK
	}
	w.at = p
	return true, w.entry()
}

// entry reads the entry of the innermost collection that stands at w.at.
func (w *walk) entry() api.Errno {
	top := w.open.Top()
	if top.kind == api.EMap {
		return w.pair()
	}
	if !w.begins(w.at, '-') {
		return api.ErrSyntax
	}
	w.at.At++
	return w.node(bounds{n: top.n(), lead: true})
}

// pair reads a key and what stands behind its :, or a key behind a ?, whose value stands on another line.
func (w *walk) pair() api.Errno {
	top := w.open.Top()
	if w.begins(w.at, '?') {
		top.asked = true
		w.at.At++
		return w.node(bounds{n: top.n(), lead: true})
	}
	colon, isKey := w.reader.Colon(w.at)
	if !isKey {
		return api.ErrSyntax
	}
	// The : on its line ends the key, so that no further line is looked at.
	key, _, e := w.reader.Outer(w.at, top.n(), w.open.Size())
	if e != api.OK {
		return e
	}
	w.told = append(w.told, key...)
	w.at = colon.Plus(1)
	return w.node(bounds{n: top.n(), pair: true})
}

// opens begins the collection of that kind that stands at w.at.
func (w *walk) opens(kind int, has flow.Properties, atKey bool) api.Errno {
	if w.open.Size() >= api.MaxDepth {
		return api.ErrDeep
	}
	column := uint(places.Blanks(w.Lines[w.at.Line])) + uint(w.at.At)
	w.told = append(w.told, api.Event{Kind: kind, Tag: has.Tag, Anchor: has.Anchor})
	w.open.Push(level{kind: kind, column: column, isNew: true, atKey: atKey})
	return api.OK
}

// close ends the innermost collection.
func (w *walk) close() {
	kind := api.EMapEnd
	if w.open.Pop().kind == api.ESeq {
		kind = api.ESeqEnd
	}
	w.told = append(w.told, api.Event{Kind: kind})
}

// next answers the beginning of the next line, where nothing more may stand on this one; false: it is over.
func (w *walk) next() (places.Place, bool, api.Errno) {
	if !w.Ends(w.PastBlanks(w.at)) {
		return places.Place{}, false, api.ErrSyntax
	}
	for p := range w.From(w.at) {
		x := w.Lines[p.Line]
		switch {
		case p.Line == w.at.Line || lines.Bare(x):
			continue
		case x.Text[0] == tab:
			return places.Place{}, false, api.ErrTab
		}
		return p, true, api.OK
	}
	return places.Place{}, false, api.OK
}

// begins tells whether that sign stands at p, with nothing or a blank behind it.
func (w *walk) begins(p places.Place, sign int) bool {
	return w.Stands(p, sign) && w.Blank(p.Plus(1))
}
