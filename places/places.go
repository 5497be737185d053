// Package places stands beside the layers: it tells places on lines, for the ones that read nodes there.
package places

import (
	"iter"

	"marginalia/api"
	"marginalia/chars"
)

// Place is a line, and how many code points of its Text stand ahead. The blanks of its Indent have no places of their own: whatever is looked for, they are passed over.
type Place struct{ Line, At int }

// Plus answers the place so many code points behind p.
func (p Place) Plus(size int) Place {
	return Place{p.Line, p.At + size}
}

// Lines are lines on which places stand. Each place that is handed in must stand on one of them.
type Lines []api.Line

// Of answers the place at that line and column: that behind the Indent of a column in it, the line's end of one behind that; false: there is no such line or column.
func (l Lines) Of(line, column int) (Place, bool) {
	if line < 0 || line >= len(l) || column < 0 {
		return Place{}, false
	}
	at := max(column-Blanks(l[line]), 0)
	return Place{line, min(at, len(l[line].Text))}, true
}

// Column answers the column of p.
func (l Lines) Column(p Place) int {
	return Blanks(l[p.Line]) + p.At
}

// Rest answers what stands from p on up to its line's end. It is a piece of the line itself.
func (l Lines) Rest(p Place) []int {
	return l[p.Line].Text[p.At:]
}

// From tells p, and then the beginning of each line behind it, one by one.
func (l Lines) From(p Place) iter.Seq[Place] {
	return func(yield func(Place) bool) {
		for q := p; q.Line < len(l) && yield(q); {
			q = Place{Line: q.Line + 1}
		}
	}
}

// PastBlanks answers the first place from p on, on its line, with no blank.
func (l Lines) PastBlanks(p Place) Place {
	for _, c := range l.Rest(p) {
		if !chars.Blank(c) {
			break
		}
		p.At++
	}
	return p
}

// Ends tells whether a line ends at p, or a remark begins there. (At the beginning of the Text the line begins, or a blank of the Indent stands ahead.)
func (l Lines) Ends(p Place) bool {
	text := l[p.Line].Text
	return p.At == len(text) || text[p.At] == '#' && (p.At == 0 || chars.Blank(text[p.At-1]))
}

// Stands tells whether that sign stands at p.
func (l Lines) Stands(p Place, sign int) bool {
	rest := l.Rest(p)
	return len(rest) > 0 && rest[0] == sign
}

// Blank tells whether a blank or nothing stands at p.
func (l Lines) Blank(p Place) bool {
	rest := l.Rest(p)
	return len(rest) == 0 || chars.Blank(rest[0])
}

// Blanks answers how many blanks stand ahead of x's Text.
func Blanks(x api.Line) int {
	return max(x.Indent, 0)
}
