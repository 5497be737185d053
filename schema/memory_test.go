package schema

import (
	"math/rand"
	"slices"
	"strconv"
	"strings"
	"testing"
	"unsafe"

	"marginalia/api"
)

// samples are texts on which the promises of memory are tried, right ones and wrong ones.
func samples() []string {
	list := []string{"", "~", "null", "NULL", "nULL", "true", "False", "yes", "0", "-0", "007", "-12", "0x1F", "0o17", "1500", "1.50", "1.", "-1.5e3", "1e1234567890", ".inf", "-.INF", ".nan", "-", "a", "a b\n", "\xff", "é\xc3", "\x00", strings.Repeat("9", 5000), strings.Repeat("9", 5001), "x" + strings.Repeat("\xff", 20000)}
	from := rand.New(rand.NewSource(1903))
	for range 40 {
		list = append(list, grown(from))
	}
	return list
}

// tags are tags with which they are tried.
func tags() []string {
	return []string{"", "!", "x", "!\xff", y + "null", y + "bool", y + "int", y + "float", y + "str", y + "seq", y + strings.Repeat("t", 900)}
}

// tell is all that is told of a tag and a text.
func tell(tag, text string) string {
	var b strings.Builder
	for kind := range 5 {
		b.WriteString(Default(kind) + " ")
		for _, plain := range []bool{true, false} {
			for s := range 4 {
				b.WriteString(strconv.Quote(Resolve(kind, tag, text, plain, s)) + " ")
			}
		}
	}
	v, e := Value(tag, text)
	x := v.Number
	b.WriteString(strconv.Itoa(v.Kind) + strconv.FormatBool(v.True) + strconv.Quote(v.Text) + strconv.FormatBool(x.Below) + x.Digits + "e" + strconv.Itoa(x.Exp) + " " + strconv.Itoa(x.What) + " " + strconv.Itoa(int(e)))
	return b.String()
}

// all is what is told of all samples.
func all() []string {
	var list []string
	for _, tag := range tags() {
		for _, text := range samples() {
			list = append(list, tell(tag, text))
		}
	}
	return list
}

// TestTwice: P1903: the same call tells the same, whatever was asked between.
func TestTwice(t *testing.T) {
	want := all()
	if !slices.Equal(all(), want) {
		t.Error("P1903: another answer to the same call")
	}
	at := 0
	for _, tag := range tags() {
		for _, text := range samples() {
			tell(y+"int", "12")
			Value(y+"bool", "maybe")
			if got := tell(strings.Clone(tag), strings.Clone(text)); got != want[at] {
				t.Errorf("P1903: %s, %s: %s, not %s", short(tag), short(text), short(got), short(want[at]))
			}
			at++
		}
	}
}

// TestBeside: P1903: many ask at the same time, and each is told the same as one alone.
func TestBeside(t *testing.T) {
	want := all()
	done := make(chan []string)
	for range 5 {
		go func() { done <- all() }()
	}
	for range 5 {
		if !slices.Equal(<-done, want) {
			t.Error("P1903: another answer side by side")
		}
	}
}

// handed is s in memory of its own, with room around it, which the test can turn.
func handed(s string) ([]byte, string) {
	b := []byte("0" + s + "0")
	return b, unsafe.String(&b[1], len(s))
}

// apart tells whether s shares no memory with b.
func apart(s string, b []byte) bool {
	first, at := uintptr(unsafe.Pointer(unsafe.SliceData(b))), uintptr(unsafe.Pointer(unsafe.StringData(s)))
	return s == "" || at < first || at >= first+uintptr(len(b))
}

// TestMemory: P1903: what is handed in stays as it is, what stands around it is not looked at, and what is told does not turn with it.
func TestMemory(t *testing.T) {
	for _, tag := range tags() {
		for _, text := range samples() {
			want := tell(tag, text)
			tagBytes, tagIn := handed(tag)
			textBytes, textIn := handed(text)
			if got := tell(tagIn, textIn); got != want {
				t.Errorf("P1903: %s, %s: within more %s, not %s", short(tag), short(text), short(got), short(want))
			}
			resolved := Resolve(api.NScalar, tagIn, textIn, true, api.Core)
			v, e := Value(tagIn, textIn)
			if string(tagBytes) != "0"+tag+"0" || string(textBytes) != "0"+text+"0" {
				t.Fatalf("P1903: %s, %s: what was handed in was changed", short(tag), short(text))
			}
			for _, s := range []string{resolved, v.Text, v.Number.Digits} {
				if !apart(s, tagBytes) || !apart(s, textBytes) {
					t.Errorf("P1903: %s, %s: %s shares memory with what was handed in", short(tag), short(text), short(s))
				}
			}
			for _, b := range [][]byte{tagBytes, textBytes} {
				for at := range b {
					b[at] = '#'
				}
			}
			if again := Resolve(api.NScalar, tag, text, true, api.Core); resolved != again {
				t.Errorf("P1903: Resolve of %s, %s turned to %s", short(tag), short(text), short(resolved))
			}
			if again, wrong := Value(tag, text); v != again || e != wrong {
				t.Errorf("P1903: Value of %s, %s turned", short(tag), short(text))
			}
		}
	}
}

// TestOthersKept: P1903: what is told of one is its own: turning the fields of an answer turns no later one.
func TestOthersKept(t *testing.T) {
	first, _ := Value(y+"float", "-1.50")
	first.Number.Digits, first.Number.Exp, first.Kind, first.Text = "7", 7, 7, "x"
	if again, e := Value(y+"float", "-1.50"); e != api.OK || again != (api.Value{Kind: api.VFloat, Number: num(true, "15", -1)}) {
		t.Errorf("P1903: %v, %v", again, e)
	}
}

// TestWithin: the generic function below the faces tells the same of each kind of number.
func TestWithin(t *testing.T) {
	for n := range 256 {
		want := n >= 48 && n <= 57
		if within(n, '0', '9') != want || within(byte(n), '0', '9') != want {
			t.Errorf("within of %d: not %t", n, want)
		}
	}
	if within(-1, 0, 0) || within(1<<32+1, 1, 9) || within(1, 9, 1) {
		t.Error("within: outside of its bounds")
	}
}
