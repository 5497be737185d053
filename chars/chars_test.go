package chars

import (
	"math"
	"slices"
	"testing"
)

// kinds is what P201 says of one number.
type kinds struct {
	print, blank, sign, flow, name, word bool
	hex                                  int
}

func told(c int) kinds {
	return kinds{Print(c), Blank(c), Sign(c), Flow(c), Name(c), Word(c), Hex(c)}
}

// listed is P201 once more: one set a kind, each filled from the document's own lists.
func listed() map[int]kinds {
	all := map[int]kinds{}
	turn := func(from, to int, change func(c int, k *kinds)) {
		for c := from; c <= to; c++ {
			k, met := all[c]
			if !met {
				k.hex = -1
			}
			change(c, &k)
			all[c] = k
		}
	}
	isPrint := func(c int, k *kinds) { k.print, k.name = true, true }
	isBlank := func(c int, k *kinds) { k.blank, k.name = true, false }
	isSign := func(c int, k *kinds) { k.sign = true }
	isFlow := func(c int, k *kinds) { k.flow, k.name = true, false }
	noName := func(c int, k *kinds) { k.name = false }
	isWord := func(c int, k *kinds) { k.word = true }
	for _, s := range [][2]int{{9, 9}, {10, 10}, {13, 13}, {32, 126}, {133, 133}, {160, 55295}, {57344, 65533}, {65536, 1114111}} {
		turn(s[0], s[1], isPrint)
	}
	for _, c := range []int{32, 9} {
		turn(c, c, isBlank)
	}
	for _, c := range []int{45, 63, 58, 44, 91, 93, 123, 125, 35, 38, 42, 33, 124, 62, 39, 34, 37, 64, 96} {
		turn(c, c, isSign)
	}
	for _, c := range []int{44, 91, 93, 123, 125} {
		turn(c, c, isFlow)
	}
	for _, c := range []int{10, 13, 65279} {
		turn(c, c, noName)
	}
	for _, s := range [][2]int{{48, 57}, {97, 122}, {65, 90}, {45, 45}} {
		turn(s[0], s[1], isWord)
	}
	turn(48, 57, func(c int, k *kinds) { k.hex = c - 48 })
	turn(97, 102, func(c int, k *kinds) { k.hex = c - 87 })
	turn(65, 70, func(c int, k *kinds) { k.hex = c - 55 })
	return all
}

func noKind() kinds { return kinds{hex: -1} }

// TestAll: P201: each number from well below nought to well beyond the last code point.
func TestAll(t *testing.T) {
	all := listed()
	for c := -70000; c <= 1114111+70000; c++ {
		want, met := all[c]
		if !met {
			want = noKind()
		}
		if got := told(c); got != want {
			t.Errorf("P201: %d: %+v, not %+v", c, got, want)
		}
	}
}

// TestPrintEdges: P201: the first and the last of each span, and those just beside them.
func TestPrintEdges(t *testing.T) {
	for _, x := range []struct {
		c    int
		want bool
	}{
		{0, false}, {8, false}, {9, true}, {10, true}, {11, false}, {12, false}, {13, true}, {14, false},
		{31, false}, {32, true}, {126, true}, {127, false}, {132, false}, {133, true}, {134, false},
		{159, false}, {160, true}, {55295, true}, {55296, false}, {57343, false}, {57344, true},
		{65279, true}, {65533, true}, {65534, false}, {65535, false}, {65536, true}, {1114111, true}, {1114112, false},
	} {
		if got := Print(x.c); got != x.want {
			t.Errorf("P201: Print of %d: %t", x.c, got)
		}
	}
}

// TestNameEdges: P201: what is printed and may yet not stand in a name, and neighbours that may.
func TestNameEdges(t *testing.T) {
	for _, c := range []int{9, 10, 13, 32, ',', '[', ']', '{', '}', 65279, 8, 127, 55296, 65534, 1114112} {
		if Name(c) {
			t.Errorf("P201: Name of %d: true", c)
		}
	}
	for _, c := range []int{33, '+', '-', 'Z', '\\', '^', 'z', '|', '~', '#', '&', '*', '!', ':', '"', '\'', '`', 133, 160, 55295, 57344, 65278, 65280, 65533, 65536, 1114111} {
		if !Name(c) {
			t.Errorf("P201: Name of %d: false", c)
		}
	}
}

// TestSigns: P201: each of the signs, and the rest of ASCII.
func TestSigns(t *testing.T) {
	var signs, flows []byte
	for c := range 128 {
		if Sign(c) {
			signs = append(signs, byte(c))
		}
		if Flow(c) {
			flows = append(flows, byte(c))
		}
	}
	if string(signs) != "!\"#%&'*,-:>?@[]`{|}" {
		t.Errorf("P201: the signs: %q", signs)
	}
	if string(flows) != ",[]{}" {
		t.Errorf("P201: the signs of flow: %q", flows)
	}
}

// TestWordsAndDigits: P201: each digit and each letter, and the neighbours of their spans.
func TestWordsAndDigits(t *testing.T) {
	var words []byte
	for c := range 256 {
		if Word(c) {
			words = append(words, byte(c))
		}
	}
	if string(words) != "-0123456789ABCDEFGHIJKLMNOPQRSTUVWXYZabcdefghijklmnopqrstuvwxyz" {
		t.Errorf("P201: the words: %q", words)
	}
	for value, c := range "0123456789abcdef" {
		if got := Hex(int(c)); got != value {
			t.Errorf("P201: Hex of %q: %d", c, got)
		}
	}
	for value, c := range "0123456789ABCDEF" {
		if got := Hex(int(c)); got != value {
			t.Errorf("P201: Hex of %q: %d", c, got)
		}
	}
	for _, c := range "/:@G`g-. xXoO" {
		if got := Hex(int(c)); got != -1 {
			t.Errorf("P201: Hex of %q: %d", c, got)
		}
	}
	for _, c := range []int{'_', '/', ':', '@', '[', '`', '{', ',', '.', 0xE9, 0x663, 0xFF11, 0xFF21} {
		if Word(c) || Hex(c) != -1 {
			t.Errorf("P201: %d is a word or a digit", c)
		}
	}
}

// TestFarNumbers: P201: no number that is like a kind's in its last bits only, none below nought, nor the least and the greatest.
func TestFarNumbers(t *testing.T) {
	far := []int{-1, -9, -32, -48, -128, -65536, math.MinInt32, math.MaxInt32, math.MinInt, math.MinInt + 1, math.MaxInt, math.MaxInt - 1}
	for c := range 256 {
		far = append(far, c-256, c-65536, c+1<<21, c+1<<24, c+math.MinInt32, c+math.MinInt, math.MaxInt-c, -c-1)
		if math.MaxInt > math.MaxInt32 {
			far = append(far, c+(math.MaxInt>>31)+1, -c-(math.MaxInt>>31)-1)
		}
	}
	for _, c := range far {
		if got := told(c); got != noKind() {
			t.Errorf("P201: %d: %+v", c, got)
		}
	}
	for c := range 256 {
		for _, shift := range []int{256, 512, 65536 + 256, 1 << 20} {
			if k := told(c + shift); k.blank || k.sign || k.flow || k.word || k.hex != -1 {
				t.Errorf("P201: %d: %+v", c+shift, k)
			}
		}
	}
}

// TestAgain: P202: what is told hangs on the number alone: not on what was asked before, nor on who asks beside.
func TestAgain(t *testing.T) {
	var numbers []int
	var want []kinds
	for c := -10; c < 66000; c++ {
		numbers = append(numbers, c)
		want = append(want, told(c))
	}
	done := make(chan []kinds)
	for range 4 {
		go func() {
			var back []kinds
			for _, c := range slices.Backward(numbers) {
				back = append(back, told(c))
			}
			slices.Reverse(back)
			done <- back
		}()
	}
	for range 4 {
		if !slices.Equal(<-done, want) {
			t.Error("P202: another answer to the same number")
		}
	}
}

// TestKindsOfNumbers: the functions below the faces tell the same of each kind of number.
func TestKindsOfNumbers(t *testing.T) {
	for c := range 256 {
		if within(byte(c), '0', '9') != within(c, '0', '9') || within(rune(c), '0', '9') != within(c, '0', '9') {
			t.Errorf("P201: within of %d", c)
		}
		if oneOf(byte(c), flowSigns) != Flow(c) || oneOf(rune(c), flowSigns) != Flow(c) {
			t.Errorf("P201: oneOf of %d", c)
		}
	}
}
