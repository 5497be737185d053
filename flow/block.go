package flow

import (
	"marginalia/api"
	"marginalia/places"
)

// The calls of this file are for the layer that reads blocks. Their places must stand on the reader's lines.

// Outer answers as Node does, but of a plain text that stands in no collection as one without flow.
func (r *Reader) Outer(p places.Place, n, deep int) ([]api.Event, places.Place, api.Errno) {
	w := walk{Lines: r.lines, n: n, deep: deep, at: p, block: true}
	return w.read()
}

// Colon answers the place of the : behind the key of one line that stands at p.
func (r *Reader) Colon(p places.Place) (places.Place, bool) {
	w := r.alone(p)
	from := w.at
	if w.PastBlanks(from) != from || w.node() != api.OK {
		return places.Place{}, false
	}
	colon := w.PastBlanks(w.at)
	if !w.Stands(colon, ':') || !w.Blank(colon.Plus(1)) || colon.At-from.At > api.MaxKey {
		return places.Place{}, false
	}
	return places.Place{Line: p.Line, At: colon.At}, true
}

// Properties answers the properties that stand from p on, on its line.
func (r *Reader) Properties(p places.Place) (Properties, api.Errno) {
	w := r.alone(p)
	has, _, e := w.properties()
	if e != api.OK {
		return Properties{}, e
	}
	has.Behind.Line = p.Line
	return has, api.OK
}

// alone answers a walk from p on over its line alone.
func (r *Reader) alone(p places.Place) walk {
	return walk{Lines: r.lines[p.Line : p.Line+1], at: places.Place{At: p.At}, block: true}
}
