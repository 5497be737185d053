package schema

import (
	"math"
	"strconv"
	"strings"
	"testing"

	"marginalia/api"
)

const y = "tag:yaml.org,2002:"

// short is s as it is told in a test's error.
func short(s string) string {
	if len(s) <= 60 {
		return strconv.Quote(s)
	}
	return strconv.Quote(s[:25]) + ".." + strconv.Quote(s[len(s)-25:]) + " (" + strconv.Itoa(len(s)) + ")"
}

// others are numbers of no schema, and Failsafe.
func others() []int {
	return []int{api.Failsafe, -1, 3, 4, -2, 1 << 8, 1<<32 + 2, 1<<32 + 1, math.MinInt, math.MaxInt}
}

// noKinds are numbers of no kind of nodes.
func noKinds() []int {
	return []int{0, 4, -1, -2, -3, 5, 1<<8 + 1, 1<<32 + 1, 1<<32 + 2, math.MinInt, math.MaxInt}
}

// resolve: P1901: what is told of a plain scalar by Core and by JSON; none of the others tells more than !!str.
func resolve(t *testing.T, text, core, json string) {
	t.Helper()
	if got := Resolve(api.NScalar, "", text, true, api.Core); got != y+core {
		t.Errorf("P1901: Core, %s: %q, not %s", short(text), got, core)
	}
	if got := Resolve(api.NScalar, "", text, true, api.JSON); got != y+json {
		t.Errorf("P1901: JSON, %s: %q, not %s", short(text), got, json)
	}
	for _, s := range others() {
		if got := Resolve(api.NScalar, "", text, true, s); got != y+"str" {
			t.Errorf("P1901: schema %d, %s: %q", s, short(text), got)
		}
	}
}

// value: P1902: what a text is by one of YAML's tags.
func value(t *testing.T, name, text string, want api.Value) {
	t.Helper()
	if got, e := Value(y+name, text); e != api.OK || got != want {
		t.Errorf("P1902: %s, %s: %v, %v, not %v", name, short(text), got, e, want)
	}
}

// noValue: P1902: a text that is no value of one of YAML's tags.
func noValue(t *testing.T, name, text string) {
	t.Helper()
	if got, e := Value(y+name, text); e != api.ErrValue || got != (api.Value{}) {
		t.Errorf("P1902: %s, %s: %v, %v, not ErrValue alone", name, short(text), got, e)
	}
}

// num is a number that is no infinity.
func num(below bool, digits string, exp int) api.Number {
	return api.Number{Below: below, Digits: digits, Exp: exp}
}

// TestExample: P1901: the chapter's example.
func TestExample(t *testing.T) {
	if got := Resolve(api.NScalar, "", "0x1F", true, api.Core); got != "tag:yaml.org,2002:int" {
		t.Errorf("P1901: %q", got)
	}
}

// TestDefault: P1901: each kind has its tag, another one has none.
func TestDefault(t *testing.T) {
	for kind, want := range map[int]string{api.NScalar: y + "str", api.NSeq: y + "seq", api.NMap: y + "map"} {
		if got := Default(kind); got != want {
			t.Errorf("P1901: Default of %d: %q", kind, got)
		}
	}
	for _, kind := range noKinds() {
		if got := Default(kind); got != "" {
			t.Errorf("P1901: Default of %d: %q", kind, got)
		}
	}
}

// each tells all that Resolve may be asked but tag and text.
func each(tell func(kind int, plain bool, schema int)) {
	for _, kind := range append(noKinds(), api.NScalar, api.NSeq, api.NMap) {
		for _, plain := range []bool{true, false} {
			for _, s := range append(others(), api.Core, api.JSON) {
				tell(kind, plain, s)
			}
		}
	}
}

// TestOwnTag: P1901: a tag that is neither empty nor ! stays, whatever the text would be.
func TestOwnTag(t *testing.T) {
	for _, tag := range []string{"x", "!x", "!!", "! ", " !", " ", "!!int", "<!", "?", "~", "null", "\x00", "\xff", "é", "!\xff", y, y + "int", y + "str", y + "map", strings.Repeat("t", 1<<18), "!" + strings.Repeat("\xff", 2000)} {
		for _, text := range []string{"", "1", "null", "true", "a", ".inf", "\xff"} {
			each(func(kind int, plain bool, s int) {
				if got := Resolve(kind, tag, text, plain, s); got != tag {
					t.Errorf("P1901: kind %d, tag %s, text %q, plain %t, schema %d: %s", kind, short(tag), text, plain, s, short(got))
				}
			})
		}
	}
}

// TestUnresolved: P1901: ! tells Default's tag, of a plain scalar too.
func TestUnresolved(t *testing.T) {
	for _, text := range []string{"", "1", "null", "true", "1.5", "~", "a", "!", "\xff"} {
		each(func(kind int, plain bool, s int) {
			if got := Resolve(kind, "!", text, plain, s); got != Default(kind) {
				t.Errorf("P1901: kind %d, text %q, plain %t, schema %d: %q", kind, text, plain, s, got)
			}
		})
	}
}

// TestEmptyTag: P1901: the empty tag tells Default's too, but of a plain scalar.
func TestEmptyTag(t *testing.T) {
	for _, text := range []string{"", "1", "null", "true", "1.5", "~", "a", "!", "\xff"} {
		each(func(kind int, plain bool, s int) {
			if kind == api.NScalar && plain {
				return
			}
			if got := Resolve(kind, "", text, plain, s); got != Default(kind) {
				t.Errorf("P1901: kind %d, text %q, plain %t, schema %d: %q", kind, text, plain, s, got)
			}
		})
	}
}

// TestWords: P1901: the texts of null and bool, by Core and by JSON.
func TestWords(t *testing.T) {
	for _, x := range []struct{ text, core, json string }{
		{"null", "null", "null"}, {"", "null", "null"}, {"Null", "null", "str"}, {"NULL", "null", "str"}, {"~", "null", "str"},
		{"true", "bool", "bool"}, {"True", "bool", "str"}, {"TRUE", "bool", "str"},
		{"false", "bool", "bool"}, {"False", "bool", "str"}, {"FALSE", "bool", "str"},
		{"a", "str", "str"}, {"yes", "str", "str"}, {"no", "str", "str"}, {"on", "str", "str"}, {"y", "str", "str"}, {"~~", "str", "str"}, {"nil", "str", "str"}, {"none", "str", "str"},
		{" ", "str", "str"}, {"\n", "str", "str"}, {"\x00", "str", "str"}, {"\xff", "str", "str"}, {"é", "str", "str"}, {"!", "str", "str"}, {"tru\u0435", "str", "str"}, {"\ufefftrue", "str", "str"},
	} {
		resolve(t, x.text, x.core, x.json)
	}
}

// spellings are the texts of null and bool that Core has, with a text in them.
func spellings() []string {
	return []string{"null", "Null", "NULL", "true", "True", "TRUE", "false", "False", "FALSE"}
}

// turned is s with the letter at at in its other case.
func turned(s string, at int) string {
	return s[:at] + string(rune(s[at]^32)) + s[at+1:]
}

// TestNearWords: P1901, P1902: a letter in another case, one left off, one more.
func TestNearWords(t *testing.T) {
	known := map[string]bool{}
	for _, s := range spellings() {
		known[s] = true
	}
	for _, s := range spellings() {
		near := []string{s + " ", " " + s, s + "\n", s + "\x00", "\xff" + s, s + "\xff", s + s, s + "s", "a" + s, s + s[len(s)-1:], s[:1] + s}
		for at := range s {
			near = append(near, turned(s, at), s[:at]+s[at+1:], s[:at]+"_"+s[at:], s[:at]+"1"+s[at+1:], s[:at])
		}
		for _, text := range near {
			if known[text] || text == "" {
				continue
			}
			resolve(t, text, "str", "str")
			for _, name := range []string{"null", "bool", "int", "float"} {
				noValue(t, name, text)
			}
		}
	}
}

// TestCoreNumbers: P1901: what decimal.Int and decimal.Float tell, by Core.
func TestCoreNumbers(t *testing.T) {
	for _, text := range []string{"0", "1", "12", "007", "00", "-0", "+0", "-12", "+1", "+007", "-007", "0o0", "0o17", "0o007", "0x0", "0x1F", "0xabcdef", "0xABCDEF", "0x00a", "9999999999999999999999"} {
		if got := Resolve(api.NScalar, "", text, true, api.Core); got != y+"int" {
			t.Errorf("P1901: Core, %q: %q", text, got)
		}
	}
	for _, text := range []string{"1.5", "1.", ".5", "0.0", "-0.0", "+1.5", "-.5", "+.5", "01.5", "1e3", "1E3", "1e+3", "1e-3", "1.e3", ".5e3", "1e000000000", "1e999999999", "-1e-999999999", ".inf", ".Inf", ".INF", "-.inf", "-.Inf", "-.INF", "+.inf", "+.Inf", "+.INF", ".nan", ".NaN", ".NAN"} {
		if got := Resolve(api.NScalar, "", text, true, api.Core); got != y+"float" {
			t.Errorf("P1901: Core, %q: %q", text, got)
		}
	}
	for _, text := range []string{"-", "+", ".", "-.", "0o", "0x", "0o8", "0xg", "-0x1", "+0o1", "0X1", "0O1", "0b1", "1e", "1e+", "1e1234567890", "e1", ".e1", "1.5.", "1.5.5", "--1", "+-1", "1_000", "1,0", " 1", "1 ", "1\n", "1\x00", "1\xff", "\xff1", "\uff11", "-.nan", "+.nan", ".iNF", ".inF", ".nAN", ".Nan", "inf", "nan", "Infinity", ".inf.", "..inf", ".inff", ".in", ".na", ".nan ", "1:20", "2026-11-19"} {
		resolve(t, text, "str", "str")
	}
}

// TestJSONWholes: P1901: whole numbers by JSON.
func TestJSONWholes(t *testing.T) {
	for _, text := range []string{"0", "-0", "1", "9", "-1", "10", "100", "-100", "101", "1234567890", "-9876543210", "18446744073709551616"} {
		resolve(t, text, "int", "int")
	}
	for _, text := range []string{"00", "01", "007", "-00", "-01", "000", "+0", "+1", "+10", "0o0", "0o17", "0x0", "0x1F"} {
		resolve(t, text, "int", "str")
	}
	for _, text := range []string{"-", "--1", "-+1", "1-", "- 1", "-a", "a1", "1a", "1 ", " 1", "1\xff", "1/", "1:", "/", ":", "1\x00", "\u0661", "-x1", "0-", "0 0"} {
		resolve(t, text, "str", "str")
	}
}

// TestJSONFloats: P1901: numbers with a point, an exponent or both by JSON.
func TestJSONFloats(t *testing.T) {
	right := []string{"0.0", "-0.0", "1.5", "-1.5", "10.05", "0.000", "1.50", "1e3", "1E3", "0e0", "-0e0", "0E00", "1e+3", "1E+3", "1e-3", "1E-3", "1.5e3", "1.5E-3", "-1.5e+3", "1e1", "1e01", "1e000000000", "1e123456789", "1E+123456789", "1e-123456789", "1.0e999999999", "100.001e100"}
	for _, text := range right {
		resolve(t, text, "float", "float")
	}
	for _, text := range []string{"1.", "-1.", "0.", ".5", "-.5", ".0", "+1.5", "+1e3", "01.5", "-01.5", "00.5", "01e3", "00e0", "1.e3", "0.e0", ".5e3", ".inf", ".Inf", ".INF", "-.inf", "+.INF", ".nan", ".NaN", ".NAN"} {
		resolve(t, text, "float", "str")
	}
	for _, text := range []string{"1e", "1E", "1e+", "1E-", "1.5e", "1.5e+", "1e1234567890", "1E+1234567890", "1e-1234567890", "1e0000000000", "1.5e1234567890", "1e++1", "1e+-1", "1ee1", "1e1e1", "1e1.5", "1e.5", "1.5.5", "1..5", "e1", "-e1", "-.", ".", ".e1", "1.-5", "1.+5", "1.a", "1ea", "1e 1"} {
		resolve(t, text, "str", "str")
	}
	for _, text := range right {
		for _, more := range []string{" ", "a", "-", "+", ".", "e", "E", "_", "\x00", "\xff", "\n", "é", ",", ":"} {
			if got := Resolve(api.NScalar, "", text+more, true, api.JSON); got != y+"str" {
				t.Errorf("P1901: JSON, %q: %q", text+more, got)
			}
		}
	}
}

// TestJSONLong: P1901: a number of JSON has at most 5,000 bytes in all.
func TestJSONLong(t *testing.T) {
	for _, x := range []struct{ ahead, behind, name string }{
		{"1", "", "int"}, {"-", "", "int"}, {"-1", "2", "int"},
		{"0.", "", "float"}, {"-0.", "", "float"}, {"-0.", "7e+123456789", "float"}, {"", ".5", "float"}, {"", "e5", "float"}, {"-", "E-1", "float"}, {"", "e123456789", "float"}, {"1.", "e0", "float"},
	} {
		size := 5000 - len(x.ahead) - len(x.behind)
		for more, want := range []string{x.name, "str", "str"} {
			text := x.ahead + strings.Repeat("9", size+more) + x.behind
			if got := Resolve(api.NScalar, "", text, true, api.JSON); got != y+want {
				t.Errorf("P1901: JSON, %s: %q", short(text), got)
			}
		}
	}
}

// TestCoreLong: P1901: decimal's 5,000 digits are what bounds a number of Core, not its bytes.
func TestCoreLong(t *testing.T) {
	for _, x := range []struct{ ahead, behind, name string }{
		{"", "", "int"}, {"-", "", "int"}, {"+", "", "int"}, {"", ".", "float"}, {".", "", "float"}, {"-.", "e-123456789", "float"}, {"+", "E9", "float"},
	} {
		for more, want := range []string{x.name, "str"} {
			text := x.ahead + strings.Repeat("9", 5000+more) + x.behind
			if got := Resolve(api.NScalar, "", text, true, api.Core); got != y+want {
				t.Errorf("P1901: Core, %s: %q", short(text), got)
			}
		}
	}
}

// TestGreat: P1901, P1902: texts as great as they may be, and greater ones, are told like others.
func TestGreat(t *testing.T) {
	for _, size := range []int{api.MaxText, api.MaxInput, 8 << 20} {
		for _, piece := range []string{"9", "0", "-", ".", "null", "\xff", "é", "~", "0x", "e"} {
			text := strings.Repeat(piece, size/len(piece))
			resolve(t, text, "str", "str")
			for _, name := range []string{"null", "bool", "int", "float"} {
				noValue(t, name, text)
			}
			value(t, "str", text, api.Value{Kind: api.VStr, Text: text})
		}
	}
}

// TestNulls: P1902: the texts that Core has for nothing, and others.
func TestNulls(t *testing.T) {
	for _, text := range []string{"null", "Null", "NULL", "~", ""} {
		value(t, "null", text, api.Value{Kind: api.VNull})
		for _, name := range []string{"bool", "int", "float"} {
			noValue(t, name, text)
		}
	}
	for _, text := range []string{"nULL", "nul", "nulls", "~~", " ", "0", "false", "a", "\x00", "\xff", "!"} {
		noValue(t, "null", text)
	}
}

// TestBooleans: P1902: the texts that Core has for yes and no, and others.
func TestBooleans(t *testing.T) {
	for _, text := range []string{"true", "True", "TRUE"} {
		value(t, "bool", text, api.Value{Kind: api.VBool, True: true})
	}
	for _, text := range []string{"false", "False", "FALSE"} {
		value(t, "bool", text, api.Value{Kind: api.VBool})
	}
	for _, text := range []string{"true", "True", "TRUE", "false", "False", "FALSE"} {
		for _, name := range []string{"null", "int", "float"} {
			noValue(t, name, text)
		}
	}
	for _, text := range []string{"", "~", "yes", "no", "on", "off", "1", "0", "tRUE", "t", "null", "\xff", "true\xff"} {
		noValue(t, "bool", text)
	}
}

// TestInts: P1902: !!int is what decimal.Int tells.
func TestInts(t *testing.T) {
	for text, want := range map[string]api.Number{
		"0": num(false, "0", 0), "-0": num(false, "0", 0), "+0": num(false, "0", 0), "12": num(false, "12", 0), "-12": num(true, "12", 0), "+7": num(false, "7", 0), "007": num(false, "7", 0), "1500": num(false, "15", 2),
		"0x1F": num(false, "31", 0), "0o17": num(false, "15", 0), "0x0": num(false, "0", 0), "0xa": num(false, "1", 1),
	} {
		value(t, "int", text, api.Value{Kind: api.VInt, Number: want})
	}
	for _, text := range []string{"", "-", "1.0", "1.", ".5", "1e3", ".inf", ".nan", "a", "0x", "0o8", "-0x1", "1 ", "\xff", "1\xff", strings.Repeat("1", 5001)} {
		noValue(t, "int", text)
	}
	value(t, "int", "-"+strings.Repeat("1", 5000), api.Value{Kind: api.VInt, Number: num(true, strings.Repeat("1", 5000), 0)})
}

// TestFloats: P1902: !!float is what decimal.Float tells, or else decimal.Int.
func TestFloats(t *testing.T) {
	for text, want := range map[string]api.Number{
		"0": num(false, "0", 0), "-0": num(true, "0", 0), "+0": num(false, "0", 0), "-0.0": num(true, "0", 0), "-0e5": num(true, "0", 0), "12": num(false, "12", 0), "-12.50": num(true, "125", -1), "1500": num(false, "15", 2), "1.": num(false, "1", 0), ".5": num(false, "5", -1), "1e3": num(false, "1", 3), "+1E-3": num(false, "1", -3), "1e999999999": num(false, "1", 999999999),
		"0x10": num(false, "16", 0), "0o17": num(false, "15", 0), "0x1e3": num(false, "483", 0), "0x0": num(false, "0", 0),
		".inf": {What: 1}, ".Inf": {What: 1}, ".INF": {What: 1}, "+.inf": {What: 1}, "-.inf": {Below: true, What: 1}, "-.Inf": {Below: true, What: 1}, "-.INF": {Below: true, What: 1}, ".nan": {What: 2}, ".NaN": {What: 2}, ".NAN": {What: 2},
	} {
		value(t, "float", text, api.Value{Kind: api.VFloat, Number: want})
	}
	for _, text := range []string{"", "-", ".", "a", "0x", "0o", "0o8", "-0x1", "1e", "1e1234567890", "1.5.", "-.nan", ".inF", "inf", "nan", "1 ", "\xff", "1.5\xff", strings.Repeat("1", 5001), "0x" + strings.Repeat("f", 5001)} {
		noValue(t, "float", text)
	}
}

// TestStrings: P1902: of any other tag the text is told as it stands, and nothing else.
func TestStrings(t *testing.T) {
	for _, tag := range []string{y + "str", y + "seq", y + "map", y + "binary", y + "timestamp", y + "Int", y + "int ", y + "in", y + "ints", y + "", "", "!", "!!", "!!int", "!!null", "!int", "int", "null", "<" + y + "int", " " + y + "int", y + "int\x00", "TAG:yaml.org,2002:int", "tag:yaml.org,2002", "tag:yaml.org,2001:int", "!x", "a", "\xff", "é", y + "\xff", strings.Repeat("t", 1<<18)} {
		for _, text := range []string{"", "1", "null", "~", "true", "a b", "1.5", ".inf", "a\nb\n", "\x00", "\xff", "é\xc3", "\ufeff"} {
			if got, e := Value(tag, text); e != api.OK || got != (api.Value{Kind: api.VStr, Text: text}) {
				t.Errorf("P1902: %s, %q: %v, %v", short(tag), text, got, e)
			}
		}
	}
}
