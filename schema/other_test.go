package schema

import (
	"math/rand"
	"regexp"
	"strings"
	"testing"

	"marginalia/api"
	"marginalia/decimal"
)

// The chapter's words on texts, as patterns.
var (
	nullForm      = regexp.MustCompile(`^(?:null|Null|NULL|~|)$`)
	trueForm      = regexp.MustCompile(`^(?:true|True|TRUE)$`)
	falseForm     = regexp.MustCompile(`^(?:false|False|FALSE)$`)
	jsonNullForm  = regexp.MustCompile(`^(?:null|)$`)
	jsonBoolForm  = regexp.MustCompile(`^(?:true|false)$`)
	jsonIntForm   = regexp.MustCompile(`^-?(?:0|[1-9][0-9]*)$`)
	jsonFloatForm = regexp.MustCompile(`^-?(?:0|[1-9][0-9]*)(?:\.[0-9]+)?(?:[eE][-+]?[0-9]{1,9})?$`)
)

// otherName is the name that a schema tells of a plain scalar's text, by patterns.
func otherName(text string, schema int) string {
	_, whole := decimal.Int(text)
	_, broken := decimal.Float(text)
	rows := map[int][]struct {
		name string
		is   bool
	}{
		api.Core: {{"null", nullForm.MatchString(text)}, {"bool", trueForm.MatchString(text) || falseForm.MatchString(text)}, {"int", whole}, {"float", broken}},
		api.JSON: {{"null", jsonNullForm.MatchString(text)}, {"bool", jsonBoolForm.MatchString(text)}, {"int", len(text) <= 5000 && jsonIntForm.MatchString(text)}, {"float", len(text) <= 5000 && jsonFloatForm.MatchString(text)}},
	}
	for _, x := range rows[schema] {
		if x.is {
			return x.name
		}
	}
	return "str"
}

// otherValue is Value by patterns, of one of the names of YAML's tags.
func otherValue(name, text string) (api.Value, api.Errno) {
	whole, isWhole := decimal.Int(text)
	broken, isBroken := decimal.Float(text)
	switch {
	case name == "str":
		return api.Value{Kind: api.VStr, Text: text}, api.OK
	case name == "null" && nullForm.MatchString(text):
		return api.Value{Kind: api.VNull}, api.OK
	case name == "bool" && (trueForm.MatchString(text) || falseForm.MatchString(text)):
		return api.Value{Kind: api.VBool, True: trueForm.MatchString(text)}, api.OK
	case name == "int" && isWhole:
		return api.Value{Kind: api.VInt, Number: whole}, api.OK
	case name == "float" && isBroken:
		return api.Value{Kind: api.VFloat, Number: broken}, api.OK
	case name == "float" && isWhole:
		return api.Value{Kind: api.VFloat, Number: whole}, api.OK
	}
	return api.Value{}, api.ErrValue
}

// check holds both calls against the other way, and against each other: what a schema tells of a text has a value of that tag.
func check(t *testing.T, text string) {
	t.Helper()
	for _, s := range []int{api.Core, api.JSON, api.Failsafe, 3, -1} {
		name := otherName(text, s)
		tag := Resolve(api.NScalar, "", text, true, s)
		if tag != y+name {
			t.Errorf("P1901: schema %d, %s: %q, not %s", s, short(text), tag, name)
		}
		if got, e := Value(tag, text); e != api.OK || got.Kind == api.VNone {
			t.Errorf("P1902: %s is %s by schema %d, but its value is %v, %v", short(text), name, s, got, e)
		}
	}
	for _, name := range []string{"null", "bool", "int", "float", "str"} {
		want, wrong := otherValue(name, text)
		if got, e := Value(y+name, text); got != want || e != wrong {
			t.Errorf("P1902: %s, %s: %v, %v, not %v, %v", name, short(text), got, e, want, wrong)
		}
	}
}

// texts tells all texts of at most size of these pieces.
func texts(pieces []string, size int, tell func(string)) {
	tell("")
	if size == 0 {
		return
	}
	for _, piece := range pieces {
		texts(pieces, size-1, func(rest string) { tell(piece + rest) })
	}
}

// TestOther: P1901, P1902: all short texts of the signs that matter are told as the other way tells them.
func TestOther(t *testing.T) {
	t.Parallel()
	texts([]string{"0", "1", "-", "+", ".", "e", "E", "x", "o", "\xff"}, 4, func(text string) { check(t, text) })
	texts([]string{"0", "7", "-", ".", "e"}, 6, func(text string) { check(t, text) })
	texts([]string{"n", "N", "u", "U", "l", "L", "~"}, 4, func(text string) { check(t, text) })
	texts([]string{".", "-", "inf", "Inf", "INF", "nan", "NaN", "NAN", "i", "tr", "ue", "TR", "UE", "fal", "se", "Fal", "false", "null", " "}, 3, func(text string) { check(t, text) })
}

// TestEachByte: P1901, P1902: each byte at each place of texts that are something.
func TestEachByte(t *testing.T) {
	for _, text := range []string{"", "0", "-0", "12", "-120", "1.5", "0.0e0", "-10.05E+30", "1e-123456789", "0x1F", "0o17", ".inf", "-.INF", ".nan", "null", "~", "true", "False"} {
		for at := range len(text) + 1 {
			for b := range 256 {
				sign := string([]byte{byte(b)})
				check(t, text[:at]+sign+text[at:])
				if at < len(text) {
					check(t, text[:at]+sign+text[at+1:])
				}
			}
		}
	}
}

// grown is a text that is nearly a number, of any length.
func grown(from *rand.Rand) string {
	row := func(most int) string {
		b := make([]byte, from.Intn(most+1))
		for at := range b {
			b[at] = "0123456789"[from.Intn(10)]
		}
		return string(b)
	}
	one := func(of string) string { return strings.Split(of, " ")[from.Intn(strings.Count(of, " ")+1)] }
	most := []int{1, 3, 12, 2600, 5100}[from.Intn(5)]
	text := one("- +  0 0x 0o  ") + row(most) + one(".  . ..") + row(most) + one("e E e+ E-     ee") + row(11)
	if from.Intn(6) == 0 {
		at := from.Intn(len(text) + 1)
		text = text[:at] + one("a . - 0 \xff  \x00 e") + text[at:]
	}
	return text
}

// TestGrown: P1901, P1902: greater texts that are nearly numbers.
func TestGrown(t *testing.T) {
	t.Parallel()
	from := rand.New(rand.NewSource(19))
	told := map[string]int{}
	for range 8000 {
		text := grown(from)
		check(t, text)
		told[otherName(text, api.JSON)]++
	}
	if told["int"] < 100 || told["float"] < 100 || told["str"] < 100 {
		t.Errorf("the texts are too much alike: %v", told)
	}
}
