// Package utf is layer 1: it makes code points of bytes, and bytes of code points.
package utf

import (
	"iter"
	"unicode/utf8"

	"marginalia/api"
)

// How bytes are written: Form's numbers. Great: of a unit's bytes the greatest stands first.
const (
	form8       = 1
	form16Great = 2
	form16Small = 3
	form32Great = 4
	form32Small = 5
)

const (
	firstHalf  = 55296   // the first that is half of a pair
	secondHalf = 56320   // the first that stands second in a pair
	lastHalf   = 57343   // the last that is half of a pair
	firstPair  = 65536   // the first code point that needs a pair
	lastPoint  = 1114111 // the last code point
	instead    = 65533   // is written for a number that is no code point
)

// Points answers the code points behind b's mark, as Form tells how b is written.
func Points(b []byte) ([]int, api.Errno) {
	if len(b) > api.MaxInput {
		return nil, api.ErrLong
	}
	form, mark := Form(b)
	var list []int
	for p, right := range points(b[mark:], form) {
		if !right {
			return nil, api.ErrChar
		}
		list = append(list, p)
	}
	return list, api.OK
}

// Form answers how b is written, and how many bytes the mark at its beginning has.
func Form(b []byte) (int, int) {
	if form, mark := marked(b); mark > 0 {
		return form, mark
	}
	return guessed(b), 0
}

// Bytes answers the code points of l as UTF-8; 65533 stands for each number that is none.
func Bytes(l []int) []byte {
	var b []byte
	for _, p := range l {
		if !isPoint(p) {
			p = instead
		}
		b = utf8.AppendRune(b, rune(p))
	}
	return b
}

// marked answers the form and the length of the mark that b begins with, noughts if there is none.
func marked(b []byte) (int, int) {
	// The long marks stand ahead: 255 254 0 0 begins with the mark of UTF-16, too.
	switch {
	case begins(b, "\x00\x00\xfe\xff"):
		return form32Great, 4
	case begins(b, "\xff\xfe\x00\x00"):
		return form32Small, 4
	case begins(b, "\xfe\xff"):
		return form16Great, 2
	case begins(b, "\xff\xfe"):
		return form16Small, 2
	case begins(b, "\xef\xbb\xbf"):
		return form8, 3
	}
	return 0, 0
}

// begins tells whether b begins with the bytes of mark.
func begins(b []byte, mark string) bool {
	return len(b) >= len(mark) && string(b[:len(mark)]) == mark
}

// guessed answers the form of a b without a mark, by where its first bytes are 0.
func guessed(b []byte) int {
	if len(b) >= 4 && b[1] == 0 && b[2] == 0 {
		switch {
		case b[0] == 0 && b[3] != 0:
			return form32Great
		case b[0] != 0 && b[3] == 0:
			return form32Small
		}
	}
	if len(b) >= 2 {
		switch {
		case b[0] == 0 && b[1] != 0:
			return form16Great
		case b[0] != 0 && b[1] == 0:
			return form16Small
		}
	}
	return form8
}

// points tells the code points of b one by one, each with true; where b is no right encoding it tells 0 and false, and nothing more.
func points(b []byte, form int) iter.Seq2[int, bool] {
	return func(yield func(int, bool) bool) {
		for at := 0; at < len(b); {
			p, size := first(b[at:], form)
			if size == 0 {
				yield(0, false)
				return
			}
			if !yield(p, true) {
				return
			}
			at += size
		}
	}
}

// first answers the code point that b begins with, and how many bytes it has: 0 if b does not begin with one.
func first(b []byte, form int) (int, int) {
	switch form {
	case form16Great, form16Small:
		return first16(b, form == form16Great)
	case form32Great, form32Small:
		return first32(b, form == form32Great)
	}
	return first8(b)
}

func first8(b []byte) (int, int) {
	r, size := utf8.DecodeRune(b)
	if r == utf8.RuneError && size <= 1 { // of a greater size it is a right 65533
		return 0, 0
	}
	return int(r), size
}

func first16(b []byte, great bool) (int, int) {
	if len(b) < 2 {
		return 0, 0
	}
	u := unit16(b, great)
	if !isHalf(u) {
		return u, 2
	}
	if u >= secondHalf || len(b) < 4 {
		return 0, 0
	}
	v := unit16(b[2:], great)
	if v < secondHalf || v > lastHalf {
		return 0, 0
	}
	return firstPair + (u-firstHalf)<<10 + (v - secondHalf), 4
}

func first32(b []byte, great bool) (int, int) {
	if len(b) < 4 {
		return 0, 0
	}
	u := unit32(b, great)
	if u > lastPoint || isHalf(int(u)) {
		return 0, 0
	}
	return int(u), 4
}

// unit16 answers the number of b's first two bytes.
func unit16(b []byte, great bool) int {
	if great {
		return int(b[0])<<8 | int(b[1])
	}
	return int(b[1])<<8 | int(b[0])
}

// unit32 answers the number of b's first four bytes: a uint32, for an int may be too small for it.
func unit32(b []byte, great bool) uint32 {
	if great {
		return uint32(b[0])<<24 | uint32(b[1])<<16 | uint32(b[2])<<8 | uint32(b[3])
	}
	return uint32(b[3])<<24 | uint32(b[2])<<16 | uint32(b[1])<<8 | uint32(b[0])
}

func isHalf(p int) bool {
	return firstHalf <= p && p <= lastHalf
}

func isPoint(p int) bool {
	return 0 <= p && p <= lastPoint && !isHalf(p)
}
