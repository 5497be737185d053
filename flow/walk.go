package flow

import (
	"slices"

	"marginalia/api"
	"marginalia/chars"
	"marginalia/lines"
	"marginalia/places"
	"marginalia/stacks"
)

// walk is the reading of one node. Collections that are open stand in a list, not in calls within calls: where deep is below 0 there may be more of them than those may be.
type walk struct {
	places.Lines
	n, deep int
	block   bool         // a plain text that stands in no collection is one without flow
	at      places.Place // what stands ahead is read
	open    stacks.Stack[level]
	told    []api.Event
	tall    int // how many collections stand in each other in the node that was read last, with itself
}

// level is a collection that is open.
type level struct {
	closer int // ] or }; of a pair in brackets: the ] behind it, which closes another one
	pair   bool
	next   step
	began  places.Place // in brackets: where the entry's node began
	hole   int          // in brackets: the event that becomes a mapping's if that node turns out to be a key
	tall   int          // of the tallest node in it
}

// step is what comes next in a level.
type step byte

const (
	atEntry     step = iota // an entry, or what closes the level
	behindItem              // a node in brackets was read, which may be a key
	behindKey               // a value, if there is a sign of it
	behindValue             // the end of a pair in brackets
	behindEntry             // a comma, or what closes the level
)

// read answers the events of the node to which w.at goes on, and the place behind it.
func (w *walk) read() ([]api.Event, places.Place, api.Errno) {
	if e := w.node(); e != api.OK {
		return nil, places.Place{}, e
	}
	return w.events(), w.at, api.OK
}

// node reads the whole node to which w.at goes on.
func (w *walk) node() api.Errno {
	e := w.begin()
	for e == api.OK && w.open.Size() > 0 {
		e = w.goAhead()
	}
	return e
}

// goAhead does the next step of the innermost level.
func (w *walk) goAhead() api.Errno {
	switch w.open.Top().next {
	case atEntry:
		return w.entry()
	case behindItem:
		return w.item()
	case behindKey:
		return w.value()
	case behindValue:
		w.close()
		return api.OK
	}
	return w.comma()
}

// entry reads up to the end of an entry's first node, or what closes the level.
func (w *walk) entry() api.Errno {
	if e := w.goOn(); e != api.OK {
		return e
	}
	top := w.open.Top()
	switch {
	case w.Stands(w.at, top.closer):
		w.at.At++
		w.close()
		return api.OK
	case w.standsAlone(w.at, '?'):
		return w.question()
	case top.closer == '}':
		top.next = behindKey
	default:
		top.next, top.began, top.hole = behindItem, w.at, len(w.told)
		w.told = append(w.told, api.Event{})
	}
	return w.begin()
}

// question reads the ? of an entry, and the key behind it.
func (w *walk) question() api.Errno {
	if w.open.Top().closer == ']' {
		if w.tooDeep(0) {
			return api.ErrDeep
		}
		w.told = append(w.told, api.Event{Kind: api.EMap, Flag: true})
		w.openPair(0)
	}
	w.at.At++
	if e := w.goOn(); e != api.OK {
		return e
	}
	w.open.Top().next = behindKey
	if w.entryEnds() || w.standsAlone(w.at, ':') {
		w.empty(Properties{})
		return api.OK
	}
	return w.begin()
}

// item looks whether the node in brackets that was read is a key. Whether it is, its sign of value tells, so that its mapping opens ahead of what is told already.
func (w *walk) item() api.Errno {
	top := w.open.Top()
	top.next = behindEntry
	sign, stands, e := w.next(w.at)
	if e != api.OK || !stands {
		return e
	}
	if !w.valueSign(sign) || sign.Line != top.began.Line || sign.At-top.began.At > api.MaxKey {
		return api.OK
	}
	if w.tooDeep(w.tall) {
		return api.ErrDeep
	}
	w.told[top.hole] = api.Event{Kind: api.EMap, Flag: true}
	w.openPair(w.tall)
	return api.OK
}

// value reads the value of a key: nothing, if there is no sign of it.
func (w *walk) value() api.Errno {
	sign, stands, e := w.next(w.at)
	switch {
	case e != api.OK:
		return e
	case !stands:
		return api.ErrSyntax
	}
	top := w.open.Top()
	top.next = behindEntry
	if top.pair {
		top.next = behindValue
	}
	if !w.valueSign(sign) {
		w.empty(Properties{})
		return api.OK
	}
	w.at = sign.Plus(1)
	if e := w.goOn(); e != api.OK {
		return e
	}
	if w.entryEnds() {
		w.empty(Properties{})
		return api.OK
	}
	return w.begin()
}

// comma reads what stands behind an entry.
func (w *walk) comma() api.Errno {
	if e := w.goOn(); e != api.OK {
		return e
	}
	top := w.open.Top()
	switch {
	case w.Stands(w.at, ','):
		w.at.At++
		top.next = atEntry
	case w.Stands(w.at, top.closer):
		w.at.At++
		w.close()
	default:
		return api.ErrSyntax
	}
	return api.OK
}

// openPair opens the level of a pair in brackets, with which the entry around it ends; tall: that of the key, if it was read already.
func (w *walk) openPair(tall int) {
	w.open.Top().next = behindEntry
	w.open.Push(level{closer: ']', pair: true, next: behindKey, tall: tall})
}

// close ends the innermost level.
func (w *walk) close() {
	x := w.open.Pop()
	kind := api.EMapEnd
	if x.closer == ']' && !x.pair {
		kind = api.ESeqEnd
	}
	w.tell(api.Event{Kind: kind}, x.tall+1)
}

// tell puts down the last event of a node that is so tall.
func (w *walk) tell(x api.Event, tall int) {
	w.told = append(w.told, x)
	w.tall = tall
	if w.open.Size() > 0 {
		top := w.open.Top()
		top.tall = max(top.tall, tall)
	}
}

// events answers what was told, without the holes that nothing came into.
func (w *walk) events() []api.Event {
	return slices.DeleteFunc(w.told, func(x api.Event) bool { return x.Kind == 0 })
}

// tooDeep tells whether one more collection, with so many in each other in it, is too deep.
func (w *walk) tooDeep(within int) bool {
	return w.deep+w.open.Size()+within >= api.MaxDepth
}

// entryEnds tells whether what stands here ends an entry.
func (w *walk) entryEnds() bool {
	return w.Stands(w.at, ',') || w.Stands(w.at, w.open.Top().closer)
}

// valueSign tells whether a sign of value stands at p, to which the key that was read goes on. Directly behind a key each : is one: behind a quote, ] or } by itself, and any other key would have gone on past it if a safe one stood behind it.
func (w *walk) valueSign(p places.Place) bool {
	return w.standsAlone(p, ':') || w.Stands(p, ':') && p == w.at
}

// standsAlone tells whether that sign stands at p with no safe one behind it. (The safe ones with flow are just those of names.)
func (w *walk) standsAlone(p places.Place, sign int) bool {
	if !w.Stands(p, sign) {
		return false
	}
	behind := w.Rest(p.Plus(1))
	return len(behind) == 0 || !chars.Name(behind[0])
}

// endsName tells whether what stands at p ends a name.
func (w *walk) endsName(p places.Place) bool {
	return w.Blank(p) || chars.Flow(w.Rest(p)[0])
}

// goOn goes on, within a collection, where it may not be over.
func (w *walk) goOn() api.Errno {
	p, stands, e := w.next(w.at)
	switch {
	case e != api.OK:
		return e
	case !stands:
		return api.ErrSyntax
	}
	w.at = p
	return api.OK
}

// next answers where p goes on to; false: it is over.
func (w *walk) next(p places.Place) (places.Place, bool, api.Errno) {
	for q := range w.From(p) {
		line, isFirst := w.Lines[q.Line], q.Line == p.Line
		if !isFirst && lines.Marker(line) != 0 {
			break
		}
		q = w.PastBlanks(q)
		if w.Ends(q) {
			continue
		}
		if !isFirst && line.Indent <= w.n {
			return places.Place{}, false, api.ErrIndent
		}
		return q, true, api.OK
	}
	return places.Place{}, false, api.OK
}
