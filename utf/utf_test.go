package utf

import (
	"bytes"
	"encoding/binary"
	"math"
	"slices"
	"testing"
	"unicode/utf16"

	"marginalia/api"
)

// TestFormRows: P101: each row, bare, with bytes behind it, and with its last byte gone or another.
func TestFormRows(t *testing.T) {
	for _, x := range []struct {
		b          string
		form, mark int
	}{
		{"\x00\x00\xfe\xff", 4, 4},
		{"\x00\x00\xfe\xffabc", 4, 4},
		{"\x00\x00\xfe", 1, 0},
		{"\x00\x00\xfe\xfe", 1, 0},
		{"\x00\x00\xff\xfe", 1, 0},
		{"\xff\xfe\x00\x00", 5, 4},
		{"\xff\xfe\x00\x00abc", 5, 4},
		{"\xff\xfe\x00", 3, 2},
		{"\xff\xfe\x00\x01", 3, 2},
		{"\xff\xfe\x01\x00", 3, 2},
		{"\xfe\xff", 2, 2},
		{"\xfe\xff\x00\x00", 2, 2},
		{"\xfe\xffabc", 2, 2},
		{"\xfe", 1, 0},
		{"\xfe\xfe", 1, 0},
		{"\xff\xfe", 3, 2},
		{"\xff\xfeabc", 3, 2},
		{"\xff", 1, 0},
		{"\xff\xff", 1, 0},
		{"\xef\xbb\xbf", 1, 3},
		{"\xef\xbb\xbf\x00", 1, 3},
		{"\xef\xbb\xbfabc", 1, 3},
		{"\xef\xbb", 1, 0},
		{"\xef", 1, 0},
		{"\xef\xbb\xbe", 1, 0},
		{"\x00\x00\x00a", 4, 0},
		{"\x00\x00\x00\xff", 4, 0},
		{"\x00\x00\x00ab", 4, 0},
		{"\x00\x00\x00", 1, 0},
		{"\x00\x00\x00\x00", 1, 0},
		{"\x00\x00\x00\x00a", 1, 0},
		{"a\x00\x00\x00", 5, 0},
		{"\xff\x00\x00\x00", 5, 0},
		{"a\x00\x00\x00b", 5, 0},
		{"a\x00\x00", 3, 0},
		{"a\x00\x00b", 3, 0},
		{"a\x00b\x00", 3, 0},
		{"\x00a", 2, 0},
		{"\x00a\x00\x00", 2, 0},
		{"\x00abc", 2, 0},
		{"\x00", 1, 0},
		{"\x00\x00", 1, 0},
		{"\x00\x00a\x00", 1, 0},
		{"a\x00", 3, 0},
		{"a\x00bc", 3, 0},
		{"a", 1, 0},
		{"", 1, 0},
		{"ab\x00\x00", 1, 0},
		{"a\xef\xbb\xbf", 1, 0},
	} {
		if form, mark := Form([]byte(x.b)); form != x.form || mark != x.mark {
			t.Errorf("P101: Form of %q: %d, %d, not %d, %d", x.b, form, mark, x.form, x.mark)
		}
	}
	if form, mark := Form(nil); form != 1 || mark != 0 {
		t.Errorf("P101: Form of nil: %d, %d", form, mark)
	}
	if form, mark := Form(make([]byte, api.MaxInput+1)); form != 1 || mark != 0 {
		t.Errorf("P101: Form of too many noughts: %d, %d", form, mark)
	}
}

// anyButNought stands in a pattern for each byte but 0.
const anyButNought = -1

// formByPatterns is P101 once more, row by row.
func formByPatterns(b []byte) (int, int) {
	for _, row := range []struct {
		begin      []int
		form, mark int
	}{
		{[]int{0, 0, 254, 255}, 4, 4},
		{[]int{255, 254, 0, 0}, 5, 4},
		{[]int{254, 255}, 2, 2},
		{[]int{255, 254}, 3, 2},
		{[]int{239, 187, 191}, 1, 3},
		{[]int{0, 0, 0, anyButNought}, 4, 0},
		{[]int{anyButNought, 0, 0, 0}, 5, 0},
		{[]int{0, anyButNought}, 2, 0},
		{[]int{anyButNought, 0}, 3, 0},
	} {
		fits := len(b) >= len(row.begin)
		for i := 0; fits && i < len(row.begin); i++ {
			fits = int(b[i]) == row.begin[i] || row.begin[i] == anyButNought && b[i] != 0
		}
		if fits {
			return row.form, row.mark
		}
	}
	return 1, 0
}

// TestFormAll: P101: all beginnings of up to five bytes of those that rows name, and some others.
func TestFormAll(t *testing.T) {
	alphabet := []byte{0, 1, 'a', 186, 187, 191, 239, 254, 255}
	level := [][]byte{{}}
	for range 6 {
		var longer [][]byte
		for _, b := range level {
			wantForm, wantMark := formByPatterns(b)
			if form, mark := Form(b); form != wantForm || mark != wantMark {
				t.Fatalf("P101: Form of % x: %d, %d, not %d, %d", b, form, mark, wantForm, wantMark)
			}
			for _, c := range alphabet {
				longer = append(longer, append(slices.Clone(b), c))
			}
		}
		level = longer
	}
}

// A way is one of the forms, with or without its mark.
type way struct {
	name string
	mark string
	one  func(b []byte, p int) []byte // appends p, be it a code point or not
}

func ways() []way {
	return []way{
		{"UTF-8", "", append8},
		{"UTF-8 marked", "\xef\xbb\xbf", append8},
		{"UTF-16 great", "", append16(binary.BigEndian)},
		{"UTF-16 great marked", "\xfe\xff", append16(binary.BigEndian)},
		{"UTF-16 small", "", append16(binary.LittleEndian)},
		{"UTF-16 small marked", "\xff\xfe", append16(binary.LittleEndian)},
		{"UTF-32 great", "", append32(binary.BigEndian)},
		{"UTF-32 great marked", "\x00\x00\xfe\xff", append32(binary.BigEndian)},
		{"UTF-32 small", "", append32(binary.LittleEndian)},
		{"UTF-32 small marked", "\xff\xfe\x00\x00", append32(binary.LittleEndian)},
	}
}

func append8(b []byte, p int) []byte {
	tail := func(shift int) byte { return byte(128 | p>>shift&63) }
	switch {
	case p < 128:
		return append(b, byte(p))
	case p < 2048:
		return append(b, byte(192|p>>6), tail(0))
	case p < 65536:
		return append(b, byte(224|p>>12), tail(6), tail(0))
	}
	return append(b, byte(240|p>>18), tail(12), tail(6), tail(0))
}

func append16(o binary.AppendByteOrder) func([]byte, int) []byte {
	return func(b []byte, p int) []byte {
		if p < 65536 {
			return o.AppendUint16(b, uint16(p))
		}
		u, v := utf16.EncodeRune(rune(p))
		return o.AppendUint16(o.AppendUint16(b, uint16(u)), uint16(v))
	}
}

func append32(o binary.AppendByteOrder) func([]byte, int) []byte {
	return func(b []byte, p int) []byte { return o.AppendUint32(b, uint32(p)) }
}

// text is these numbers written so; the first two should be 1 to 127, for the form without a mark to be told by them.
func (w way) text(points ...int) []byte {
	b := []byte(w.mark)
	for _, p := range points {
		b = w.one(b, p)
	}
	return b
}

func wantPoints(t *testing.T, name string, b []byte, want []int) {
	t.Helper()
	got, e := Points(b)
	if e != api.OK || !slices.Equal(got, want) {
		t.Errorf("P102: %s: Points of % x: %v, %d, not %v", name, cut(b), cut(got), e, cut(want))
	}
}

func wantError(t *testing.T, name string, b []byte, want api.Errno) {
	t.Helper()
	if got, e := Points(b); e != want || len(got) != 0 {
		t.Errorf("P102: %s: Points of % x: %v, %d, not error %d alone", name, cut(b), cut(got), e, want)
	}
}

func cut[E any](l []E) []E { return l[:min(len(l), 40)] }

// edges: the first and last code point of each length and form.
func edges() []int {
	return []int{0, 1, 127, 128, 2047, 2048, 4095, 4096, 55295, 57344, 65279, 65533, 65534, 65535, 65536, 65537, 131071, 262143, 262144, 1048575, 1048576, 1114110, 1114111}
}

func TestPointsEdges(t *testing.T) {
	for _, w := range ways() {
		wantPoints(t, w.name, w.text(), nil)
		wantPoints(t, w.name, w.text('a'), []int{'a'})
		for _, p := range edges() {
			wantPoints(t, w.name, w.text('a', 'b', p), []int{'a', 'b', p})
			wantPoints(t, w.name, w.text('a', 'b', p, p, 'c'), []int{'a', 'b', p, p, 'c'})
		}
		all := append([]int{'a', 'b'}, edges()...)
		wantPoints(t, w.name, w.text(all...), all)
	}
	wantPoints(t, "nil", nil, nil)
	wantPoints(t, "the example", []byte{255, 254, 65, 0}, []int{65})
}

// TestPointsBehindMark: P102: each code point may stand behind a mark; but 0 behind UTF-16's 255 254 makes UTF-32's of it.
func TestPointsBehindMark(t *testing.T) {
	for _, w := range ways() {
		for _, p := range edges() {
			if w.mark != "" && !(w.mark == "\xff\xfe" && p == 0) {
				wantPoints(t, w.name, w.text(p), []int{p})
				wantPoints(t, w.name, w.text(p, 0, p), []int{p, 0, p})
			}
		}
	}
	wantPoints(t, "255 254 and 0 0", []byte{255, 254, 0, 0}, nil)
	wantPoints(t, "255 254 and 0 0, a and 0", []byte{255, 254, 0, 0, 'a', 0, 0, 0}, []int{'a'})
}

// TestPointsMarkOnce: P102: only what stands at the beginning is the mark.
func TestPointsMarkOnce(t *testing.T) {
	for _, w := range ways() {
		if w.mark != "" {
			wantPoints(t, w.name, w.text(65279, 65279), []int{65279, 65279})
		}
		wantPoints(t, w.name, w.text('a', 65279, 65534), []int{'a', 65279, 65534})
	}
}

// TestPointsAll: P102: each code point, in each form.
func TestPointsAll(t *testing.T) {
	for _, w := range ways() {
		want := []int{'a', 'b'}
		for p := 0; p <= 1114111; p++ {
			if p < 55296 || p > 57343 {
				want = append(want, p)
			}
			if len(want) == 1<<17 || p == 1114111 {
				wantPoints(t, w.name, w.text(want...), want)
				want = []int{'a', 'b'}
			}
		}
	}
}

// TestPointsCut: P102: bytes that are too few at the end.
func TestPointsCut(t *testing.T) {
	for _, w := range ways() {
		for _, p := range edges() {
			begin := w.text('a', 'b')
			whole := w.one(slices.Clone(begin), p)
			for n := len(begin) + 1; n < len(whole); n++ {
				wantError(t, w.name, whole[:n], api.ErrChar)
			}
		}
	}
	for _, b := range []string{"\xef", "\xef\xbb", "\xfe", "\xff", "\xff\xfe\x00", "\xfe\xff\x00", "\x00\x00\xfe", "a\x00b", "a\x00\x00", "\x00ab", "\x00\x00\x00ab", "a\x00\x00\x00b", "\x00\x00\xfe\xffa", "\x00\x00\xfe\xffab", "\x00\x00\xfe\xff\x00\x00\x00", "\xff\xfe\x00\x00a", "\xff\xfe\x00\x00a\x00", "\xff\xfe\x00\x00a\x00\x00"} {
		wantError(t, "cut", []byte(b), api.ErrChar)
	}
}

// TestPointsNone: P102: numbers that are no code points.
func TestPointsNone(t *testing.T) {
	for _, w := range ways() {
		for _, p := range []int{55296, 55297, 56319, 56320, 57342, 57343} {
			wantError(t, w.name, w.text('a', 'b', p), api.ErrChar)
			wantError(t, w.name, w.text('a', 'b', p, 'c'), api.ErrChar)
			wantError(t, w.name, w.text('a', 'b', p, p), api.ErrChar)
		}
	}
	for _, o := range []binary.AppendByteOrder{binary.BigEndian, binary.LittleEndian} {
		for _, u := range []uint32{1114112, 1114113, 1 << 21, 1 << 24, 1<<24 | 'a', 1<<31 - 1, 1 << 31, 1<<31 | 'a', 1<<32 - 1} {
			b := o.AppendUint32(nil, 65279)
			wantError(t, "UTF-32", o.AppendUint32(b, u), api.ErrChar)
			b = o.AppendUint32(nil, 'a')
			wantError(t, "UTF-32", o.AppendUint32(b, u), api.ErrChar)
		}
	}
}

// TestPointsPairs: P102: of all edges of units beside each other only those of a pair's first and second are one.
func TestPointsPairs(t *testing.T) {
	units := []int{0, 'a', 55295, 55296, 55297, 56319, 56320, 56321, 57343, 57344, 65535}
	isFirst := func(u int) bool { return 55296 <= u && u <= 56319 }
	isSecond := func(u int) bool { return 56320 <= u && u <= 57343 }
	for _, w := range ways()[2:6] {
		for _, u := range units {
			for _, v := range units {
				switch {
				case isFirst(u) && isSecond(v):
					p := 65536 + (u-55296)*1024 + (v - 56320)
					wantPoints(t, w.name, w.text('a', 'b', u, v, 'c'), []int{'a', 'b', p, 'c'})
				case isFirst(u) || isSecond(u) || isFirst(v) || isSecond(v):
					wantError(t, w.name, w.text('a', 'b', u, v, 'c'), api.ErrChar)
				default:
					wantPoints(t, w.name, w.text('a', 'b', u, v, 'c'), []int{'a', 'b', u, v, 'c'})
				}
			}
		}
	}
	// The two of a pair are numbers of their own in UTF-32 and UTF-8, and none there.
	for _, w := range slices.Concat(ways()[:2], ways()[6:]) {
		wantError(t, w.name, w.text('a', 'b', 55296, 56320), api.ErrChar)
	}
}

// rightEight tells how many bytes the UTF-8 of one code point at b's beginning has, by the ranges of the bytes; 0: none.
func rightEight(b []byte) int {
	for _, row := range [][]struct{ from, to byte }{
		{{0x00, 0x7F}},
		{{0xC2, 0xDF}, {0x80, 0xBF}},
		{{0xE0, 0xE0}, {0xA0, 0xBF}, {0x80, 0xBF}},
		{{0xE1, 0xEC}, {0x80, 0xBF}, {0x80, 0xBF}},
		{{0xED, 0xED}, {0x80, 0x9F}, {0x80, 0xBF}},
		{{0xEE, 0xEF}, {0x80, 0xBF}, {0x80, 0xBF}},
		{{0xF0, 0xF0}, {0x90, 0xBF}, {0x80, 0xBF}, {0x80, 0xBF}},
		{{0xF1, 0xF3}, {0x80, 0xBF}, {0x80, 0xBF}, {0x80, 0xBF}},
		{{0xF4, 0xF4}, {0x80, 0x8F}, {0x80, 0xBF}, {0x80, 0xBF}},
	} {
		fits := len(b) >= len(row)
		for i := 0; fits && i < len(row); i++ {
			fits = row[i].from <= b[i] && b[i] <= row[i].to
		}
		if fits {
			return len(row)
		}
	}
	return 0
}

func allRightEight(b []byte) bool {
	for len(b) > 0 {
		n := rightEight(b)
		if n == 0 {
			return false
		}
		b = b[n:]
	}
	return true
}

// TestPointsEight: P102: all pairs of bytes, with edges of bytes behind them, are taken as the ranges say, and are given back.
func TestPointsEight(t *testing.T) {
	tails := [][]byte{{}}
	for _, c := range []byte{0, 'a', 0x7F, 0x80, 0xBF, 0xC0, 0xFF} {
		tails = append(tails, []byte{c})
		for _, d := range []byte{'a', 0x7F, 0x80, 0xBF, 0xC0} {
			tails = append(tails, []byte{c, d})
		}
	}
	for c := range 256 {
		for d := range 256 {
			for _, tail := range tails {
				b := append([]byte{'a', 'b', byte(c), byte(d)}, tail...)
				got, e := Points(b)
				if right := allRightEight(b); right != (e == api.OK) {
					t.Fatalf("P102: Points of % x: %v, %d", b, got, e)
				} else if right && !bytes.Equal(Bytes(got), b) {
					t.Fatalf("P102: Points of % x: %v, Bytes of it: % x", b, got, Bytes(got))
				} else if !right && (e != api.ErrChar || len(got) != 0) {
					t.Fatalf("P102: Points of % x: %v, %d", b, got, e)
				}
			}
		}
	}
}

// TestPointsEightNone: P102: longer forms than needed, numbers beyond the last, bytes that never stand there.
func TestPointsEightNone(t *testing.T) {
	for _, b := range []string{"\x80", "\xbf", "\xc0\x80", "\xc1\xbf", "\xc0\xaf", "\xe0\x80\x80", "\xe0\x9f\xbf", "\xf0\x80\x80\x80", "\xf0\x8f\xbf\xbf", "\xf4\x90\x80\x80", "\xf5\x80\x80\x80", "\xf7\xbf\xbf\xbf", "\xf8\x88\x80\x80\x80", "\xfc\x84\x80\x80\x80\x80", "\xfe", "\xff", "\xed\xa0\x80", "\xed\xbf\xbf", "\xed\xa0\x80\xed\xb0\x80", "\xc3a", "\xe2\x82a", "\xf0\x9f\x98a", "\xc3\x28", "\xe9\xe9"} {
		wantError(t, "UTF-8", []byte(b), api.ErrChar)
		wantError(t, "UTF-8", []byte("ab"+b), api.ErrChar)
		wantError(t, "UTF-8", []byte("ab"+b+"ab"), api.ErrChar)
		wantError(t, "UTF-8 marked", []byte("\xef\xbb\xbf"+b), api.ErrChar)
	}
}

// TestPointsLong: P102: MaxInput bytes, the mark's among them, and one more.
func TestPointsLong(t *testing.T) {
	for _, w := range ways() {
		one := w.one(nil, 'a')
		want := slices.Repeat([]int{'a'}, (api.MaxInput-len(w.mark))/len(one))
		b := w.text(want...)
		if len(b) != api.MaxInput {
			t.Fatalf("P102: %s: %d bytes are not MaxInput", w.name, len(b))
		}
		wantPoints(t, w.name, b, want)
		wantError(t, w.name, append(b, 'a'), api.ErrLong)
		wantError(t, w.name, append(b, one...), api.ErrLong)
		wantError(t, w.name, append(b, b...), api.ErrLong)
	}
	mark := []byte("\xef\xbb\xbf")
	wantPoints(t, "MaxInput with a mark", append(mark, bytes.Repeat([]byte("b"), api.MaxInput-3)...), slices.Repeat([]int{'b'}, api.MaxInput-3))
	wantError(t, "one more with a mark", append(mark, bytes.Repeat([]byte("b"), api.MaxInput-2)...), api.ErrLong)
	wantError(t, "MaxInput that is wrong", bytes.Repeat([]byte{128}, api.MaxInput), api.ErrChar)
	wantError(t, "one more that is wrong", bytes.Repeat([]byte{128}, api.MaxInput+1), api.ErrLong)
	wantError(t, "wrong at the very end", append(bytes.Repeat([]byte("a"), api.MaxInput-1), 195), api.ErrChar)
}

func TestBytes(t *testing.T) {
	for _, p := range edges() {
		if b := Bytes([]int{p}); !bytes.Equal(b, append8(nil, p)) {
			t.Errorf("P102: Bytes of %d: % x", p, b)
		}
	}
	for _, p := range []int{-1, -65, -1 << 20, math.MinInt32, math.MinInt, 55296, 55297, 56319, 56320, 57343, 1114112, 1114113, math.MaxInt32, math.MaxInt, math.MaxInt - 0x9E, math.MinInt + 'a'} {
		if b := Bytes([]int{p}); string(b) != "\xef\xbf\xbd" {
			t.Errorf("P102: Bytes of %d: % x", p, b)
		}
		if b := Bytes([]int{'a', p, 'b'}); string(b) != "a\xef\xbf\xbdb" {
			t.Errorf("P102: Bytes of a, %d, b: % x", p, b)
		}
	}
	if b := Bytes([]int{55296, 56320}); string(b) != "\xef\xbf\xbd\xef\xbf\xbd" {
		t.Errorf("P102: Bytes of a pair's two: % x", b)
	}
	if len(Bytes(nil)) != 0 || len(Bytes([]int{})) != 0 {
		t.Error("P102: Bytes of nothing is something")
	}
	if b := Bytes([]int{65279, 'a'}); string(b) != "\xef\xbb\xbfa" {
		t.Errorf("P102: Bytes of a mark and a: % x", b)
	}
}

// TestBytesAll: P102: each number from below nought to beyond the last code point, one list.
func TestBytesAll(t *testing.T) {
	var l []int
	var want []byte
	for p := -300; p <= 1114111+300; p++ {
		l = append(l, p)
		if p < 0 || p > 1114111 || 55296 <= p && p <= 57343 {
			want = append(want, 239, 191, 189)
		} else {
			want = append8(want, p)
		}
	}
	if !bytes.Equal(Bytes(l), want) {
		t.Error("P102: Bytes of all numbers")
	}
}

// TestStays: P103: what is handed in stays as it is, its spare room too.
func TestStays(t *testing.T) {
	var inputs [][]byte
	for _, w := range ways() {
		inputs = append(inputs, w.text('a', 233, 65279, 128512), w.text('a', 55296), nil)
	}
	for _, in := range inputs {
		room := append(slices.Clone(in), "spare room"...)
		before := slices.Clone(room)
		Form(room[:len(in)])
		Points(room[:len(in)])
		if !bytes.Equal(room, before) {
			t.Errorf("P103: % x became % x", before, room)
		}
	}
	room := []int{'a', -1, 55296, 128512, 1114112, 7, 7}
	before := slices.Clone(room)
	Bytes(room[:5])
	if !slices.Equal(room, before) {
		t.Errorf("P103: %v became %v", before, room)
	}
}

// TestNew: P103: answers share nothing with what is handed in, nor with each other, and hang on nothing that went before.
func TestNew(t *testing.T) {
	for _, w := range ways() {
		want := []int{'a', 233, 128512}
		in := w.text(want...)
		one, _ := Points(in)
		Points(w.text('b', 55296))
		Points(make([]byte, api.MaxInput+1))
		two, _ := Points(in)
		for i := range one {
			one[i] = -1
		}
		_ = append(one, -1)
		clear(in)
		if !slices.Equal(two, want) {
			t.Errorf("P103: %s: %v became %v", w.name, want, two)
		}
		wantPoints(t, w.name, w.text(want...), want)
	}
	l := []int{'a', 233, 128512}
	one, two := Bytes(l), Bytes(l)
	clear(one)
	clear(l)
	if string(two) != "aé😀" || string(Bytes([]int{'a', 233, 128512})) != "aé😀" {
		t.Errorf("P103: Bytes became % x", two)
	}
}

// TestPointsStop: the iterator ends where its reader leaves it, and may be gone through again.
func TestPointsStop(t *testing.T) {
	told := points([]byte("ab\x80c"), form8)
	for range 2 {
		var got []int
		for p, right := range told {
			if !right {
				p = -1
			}
			got = append(got, p)
		}
		if !slices.Equal(got, []int{'a', 'b', -1}) {
			t.Errorf("P102: told %v", got)
		}
	}
	for p, right := range told {
		if p != 'a' || !right {
			t.Errorf("P102: told %d, %t", p, right)
		}
		break
	}
}
