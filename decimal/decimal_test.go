package decimal

import (
	"math"
	"math/big"
	"math/rand"
	"regexp"
	"slices"
	"strconv"
	"strings"
	"testing"
	"unsafe"

	"marginalia/api"
)

var (
	intForm   = regexp.MustCompile(`^(?:([-+]?)([0-9]+)|0o([0-7]+)|0x([0-9a-fA-F]+))$`)
	floatForm = regexp.MustCompile(`^([-+]?)(?:([0-9]+)(?:\.([0-9]*))?|\.([0-9]+))(?:[eE]([-+]?[0-9]{1,9}))?$`)
	infForm   = regexp.MustCompile(`^([-+]?)(?:\.inf|\.Inf|\.INF)$`)
	nanForm   = regexp.MustCompile(`^(?:\.nan|\.NaN|\.NAN)$`)
	bareForm  = regexp.MustCompile(`^[1-9](?:[0-9]*[1-9])?$`)
)

// tell is Int or Float.
type tell func(s string) (api.Number, bool)

func num(below bool, digits string, exp int) api.Number {
	return api.Number{Below: below, Digits: digits, Exp: exp}
}

// short is s as it is told in a test's error.
func short(s string) string {
	if len(s) <= 40 {
		return strconv.Quote(s)
	}
	return strconv.Quote(s[:20]) + ".." + strconv.Quote(s[len(s)-20:]) + " (" + strconv.Itoa(len(s)) + ")"
}

func shown(x api.Number) string {
	return "{" + strconv.FormatBool(x.Below) + " " + short(x.Digits) + " " + strconv.Itoa(x.Exp) + " " + strconv.Itoa(x.What) + "}"
}

// shape is a great number as P501 has it: noughts at its end are counted, not written.
func shape(n *big.Int, below bool, exp int) api.Number {
	s := n.String()
	if s == "0" {
		return num(below, "0", 0)
	}
	bare := strings.TrimRight(s, "0")
	return num(below, bare, exp+len(s)-len(bare))
}

func great(s string, base int) *big.Int {
	n, ok := new(big.Int).SetString(s, base)
	if !ok {
		panic(s)
	}
	return n
}

// wantInt is P501's Int once more, by a pattern and the library's great numbers.
func wantInt(s string) (api.Number, bool) {
	m := intForm.FindStringSubmatch(s)
	if m == nil {
		return api.Number{}, false
	}
	row, base := m[2], 10
	if m[3] != "" {
		row, base = m[3], 8
	} else if m[4] != "" {
		row, base = m[4], 16
	}
	if len(row) > 5000 {
		return api.Number{}, false
	}
	n := great(row, base)
	return shape(n, m[1] == "-" && n.Sign() != 0, 0), true
}

// wantFloat is P501's Float once more.
func wantFloat(s string) (api.Number, bool) {
	if m := infForm.FindStringSubmatch(s); m != nil {
		return api.Number{Below: m[1] == "-", What: 1}, true
	}
	if nanForm.MatchString(s) {
		return api.Number{What: 2}, true
	}
	m := floatForm.FindStringSubmatch(s)
	if m == nil {
		return api.Number{}, false
	}
	part := m[3] + m[4]
	if len(m[2])+len(part) > 5000 {
		return api.Number{}, false
	}
	exp := 0
	if m[5] != "" {
		exp, _ = strconv.Atoi(m[5])
	}
	return shape(great(m[2]+part, 10), m[1] == "-", exp-len(part)), true
}

// check holds one answer against what must be told, and asks Right of it.
func check(t *testing.T, name string, call tell, s string, want api.Number, ok bool) {
	t.Helper()
	got, told := call(s)
	if got != want || told != ok {
		t.Errorf("P501: %s of %s: %s, %t, not %s, %t", name, short(s), shown(got), told, shown(want), ok)
	}
	if told && !Right(got) {
		t.Errorf("P502: %s of %s is not Right: %s", name, short(s), shown(got))
	}
}

// compare holds Int and Float of s against the patterns.
func compare(t *testing.T, s string) {
	t.Helper()
	want, ok := wantInt(s)
	check(t, "Int", Int, s, want, ok)
	want, ok = wantFloat(s)
	check(t, "Float", Float, s, want, ok)
}

func refuseInt(t *testing.T, list ...string) {
	t.Helper()
	for _, s := range list {
		check(t, "Int", Int, s, api.Number{}, false)
	}
}

func refuseFloat(t *testing.T, list ...string) {
	t.Helper()
	for _, s := range list {
		check(t, "Float", Float, s, api.Number{}, false)
	}
}

// each does it with every row of at most size signs.
func each(signs string, size int, do func(s string)) {
	do("")
	if size == 0 {
		return
	}
	for _, c := range signs {
		each(signs, size-1, func(s string) { do(string(c) + s) })
	}
}

// TestIntExamples: P501: numbers worked out by hand, in each base, with each sign.
func TestIntExamples(t *testing.T) {
	for s, want := range map[string]api.Number{
		"1":                                num(false, "1", 0),
		"+1":                               num(false, "1", 0),
		"-1":                               num(true, "1", 0),
		"12345":                            num(false, "12345", 0),
		"-10":                              num(true, "1", 1),
		"+1200":                            num(false, "12", 2),
		"1020":                             num(false, "102", 1),
		"007":                              num(false, "7", 0),
		"-00700":                           num(true, "7", 2),
		"0":                                num(false, "0", 0),
		"+0":                               num(false, "0", 0),
		"-0":                               num(false, "0", 0),
		"000":                              num(false, "0", 0),
		"-000":                             num(false, "0", 0),
		"0o0":                              num(false, "0", 0),
		"0o7":                              num(false, "7", 0),
		"0o10":                             num(false, "8", 0),
		"0o12":                             num(false, "1", 1),
		"0o0017":                           num(false, "15", 0),
		"0x0":                              num(false, "0", 0),
		"0x00":                             num(false, "0", 0),
		"0xa":                              num(false, "1", 1),
		"0xA":                              num(false, "1", 1),
		"0xf":                              num(false, "15", 0),
		"0xfF":                             num(false, "255", 0),
		"0x64":                             num(false, "1", 2),
		"0x1F":                             num(false, "31", 0),
		"0xffffffffffffffff":               num(false, "18446744073709551615", 0),
		"0xDE0B6B3A7640000":                num(false, "1", 18),
		"-9223372036854775809":             num(true, "9223372036854775809", 0),
		"123456789012345678901234567890":   num(false, "12345678901234567890123456789", 1),
		"0o1777777777777777777777":         num(false, "18446744073709551615", 0),
		"-100000000000000000000000000000":  num(true, "1", 29),
		"+000000000000000000000000000001":  num(false, "1", 0),
		"0x00000000000000000000000000abcd": num(false, "43981", 0),
	} {
		check(t, "Int", Int, s, want, true)
	}
}

// TestIntNone: P501: what is no whole number.
func TestIntNone(t *testing.T) {
	refuseInt(t, "", "+", "-", "++1", "--1", "+-1", "-+1", "1+", "1-", "- 1", "+ 1")
	refuseInt(t, "0o", "0x", "-0o7", "+0o7", "-0x1", "+0x1", "-0o0", "+0x0", "0o+7", "0o-7", "0x+1", "0x-1", "-0o", "+0x")
	refuseInt(t, "0o8", "0o9", "0og", "0oG", "0oa", "0o78", "0o87", "0xg", "0xG", "0xfg", "0xgf", "0O7", "0X1", "0O0", "0XF", "o7", "x1", "00o7", "00x1", "0ox1", "0xo1", "0x0x1", "0o0o1")
	refuseInt(t, " 1", "1 ", "1 2", " ", "\t1", "1\n", "\n", "0x 1", "0x1 ", "0o7 ", " 0o7", "1.", ".1", "1.0", ".", "0x1.0", "1e3", "1E3", "1a", "a", "f", "A1", "1_000", "1,000", "0b1", "1\x00", "\x00")
	refuseInt(t, "\u0663", "\uff11", "1\u00b2", "\xb1", "\xff", "0x\uff21", ".inf", "-.inf", ".nan", "inf", "nan", "null", "~")
}

// TestIntSigns: P501: each byte alone, ahead of digits, behind them and among them, behind each prefix.
func TestIntSigns(t *testing.T) {
	for c := range 256 {
		sign := string([]byte{byte(c)})
		for _, s := range []string{sign, sign + "1", "1" + sign, "1" + sign + "1", "0" + sign, "0" + sign + "1", "-" + sign, "-" + sign + "1", "0o" + sign, "0o1" + sign, "0x" + sign, "0x1" + sign, "0x" + sign + "1"} {
			compare(t, s)
		}
	}
}

// TestIntLong: P501: 5,000 digits are a number and 5,001 are none, the sign and the prefix beside them, noughts among them.
func TestIntLong(t *testing.T) {
	for _, ahead := range []string{"", "+", "-", "0o", "0x"} {
		for _, row := range []string{"0", "1", "7", "70", "01"} {
			s := strings.Repeat(row, 5001)
			for _, n := range []int{4999, 5000, 5001} {
				compare(t, ahead+s[:n])
			}
			if _, ok := Int(ahead + s[:5000]); !ok {
				t.Errorf("P501: 5,000 digits %q behind %q are a number", row, ahead)
			}
			refuseInt(t, ahead+s[:5001], ahead+s[:4999]+"g", ahead+"g"+s[:4999], ahead+s[:2500]+" "+s[:2499])
		}
		refuseInt(t, ahead+strings.Repeat("0", 5000)+"1", ahead+strings.Repeat("1", 1<<20))
	}
	check(t, "Int", Int, strings.Repeat("9", 5000), num(false, strings.Repeat("9", 5000), 0), true)
	check(t, "Int", Int, "-1"+strings.Repeat("0", 4999), num(true, "1", 4999), true)
	check(t, "Int", Int, "-"+strings.Repeat("0", 5000), num(false, "0", 0), true)
	check(t, "Int", Int, strings.Repeat("0", 4999)+"5", num(false, "5", 0), true)
	if x, _ := Int("0x" + strings.Repeat("f", 5000)); len(x.Digits) != 6021 {
		t.Errorf("P501: 5,000 digits in base 16 have %d in base 10", len(x.Digits))
	}
}

// TestFloatExamples: P501: numbers worked out by hand.
func TestFloatExamples(t *testing.T) {
	for s, want := range map[string]api.Number{
		"-12.50":          num(true, "125", -1),
		"1":               num(false, "1", 0),
		"+1":              num(false, "1", 0),
		"-10":             num(true, "1", 1),
		"1.":              num(false, "1", 0),
		"10.":             num(false, "1", 1),
		"-1.":             num(true, "1", 0),
		".5":              num(false, "5", -1),
		"+.5":             num(false, "5", -1),
		"-.5":             num(true, "5", -1),
		".005":            num(false, "5", -3),
		".500":            num(false, "5", -1),
		"1.5":             num(false, "15", -1),
		"1.50":            num(false, "15", -1),
		"0.1":             num(false, "1", -1),
		"00.10":           num(false, "1", -1),
		"0010.0100":       num(false, "1001", -2),
		"100.00":          num(false, "1", 2),
		"1.0":             num(false, "1", 0),
		"1e3":             num(false, "1", 3),
		"1E3":             num(false, "1", 3),
		"1e+3":            num(false, "1", 3),
		"1E-3":            num(false, "1", -3),
		"1.e3":            num(false, "1", 3),
		".1e3":            num(false, "1", 2),
		"-.5e-3":          num(true, "5", -4),
		"12.5e1":          num(false, "125", 0),
		"12.5E2":          num(false, "125", 1),
		"100e-2":          num(false, "1", 0),
		"1e0":             num(false, "1", 0),
		"1e-0":            num(false, "1", 0),
		"1e+000000003":    num(false, "1", 3),
		"1e000000010":     num(false, "1", 10),
		"1e1":             num(false, "1", 1),
		"1e123456789":     num(false, "1", 123456789),
		"1e-123456789":    num(false, "1", -123456789),
		"1e999999999":     num(false, "1", 999999999),
		"1e-999999999":    num(false, "1", -999999999),
		"10e999999999":    num(false, "1", 1000000000),
		".01e-999999999":  num(false, "1", -1000000001),
		"-1.5e-999999999": num(true, "15", -1000000000),
	} {
		check(t, "Float", Float, s, want, true)
	}
}

// TestFloatNoughts: P501: nought has no exponent, whatever was written, and keeps its sign.
func TestFloatNoughts(t *testing.T) {
	for _, s := range []string{"0", "00", "0.", ".0", "0.0", "00.00", ".000", "0e0", "0e5", "0E-5", "0.0e3", ".0e-999999999", "0.e+999999999", "000e000000001", strings.Repeat("0", 5000), "." + strings.Repeat("0", 5000)} {
		check(t, "Float", Float, s, num(false, "0", 0), true)
		check(t, "Float", Float, "+"+s, num(false, "0", 0), true)
		check(t, "Float", Float, "-"+s, num(true, "0", 0), true)
	}
}

// TestFloatNone: P501: what is no such number.
func TestFloatNone(t *testing.T) {
	refuseFloat(t, "", "+", "-", ".", "+.", "-.", "..", "1..", "..1", "1..2", "1.2.3", ".1.", ".1.2", "1.2.", "++1", "--1", "+-1", "-+1", "1+", "1-", "1+2", ".+1", "1.-5", "- 1", "+ .5")
	refuseFloat(t, "e", "E", "e3", "E3", "+e3", "-E3", ".e3", "-.e3", "1e", "1E", "1.e", ".5E", "1e+", "1e-", "1E+", "1.5e-", "e+", ".e", "1ee3", "1eE3", "1e3e3", "1e3E3", "1e++3", "1e--3", "1e+-3", "1e-+3", "1e3+", "1e3-")
	refuseFloat(t, "1e3.5", "1e3.", "1e.5", "1e.", "1e 3", "1 e3", "1e3 ", " 1e3", "1ea", "1e3a", "1e0x3", "1e1_0", "1e\u0663", "1e\x00")
	refuseFloat(t, "1e1000000000", "1e-1000000000", "1e0000000000", "1e+0000000001", "1e-0000000000", "0e0000000000", "1e"+strings.Repeat("9", 20), "1e"+strings.Repeat("0", 1<<20), "1e18446744073709551617", "1e4294967297")
	refuseFloat(t, "0o17", "0x1F", "0x1", "0o7", "0xe1", "0x1e1", "1x", "a", " ", " 1", "1 ", "1 2", "1. 5", "1 .5", "\t1", "1\n", "1.5\n", "1_0", "1,5", "1.5f", "1\x00", "\u0663", "\xff", "1.\uff15", "1\u00b2")
}

// TestFloatSigns: P501: each byte at each place of a number.
func TestFloatSigns(t *testing.T) {
	for c := range 256 {
		sign := string([]byte{byte(c)})
		for _, form := range []string{"#", "#1", "1#", "1#1", "-#", "-#1", "#.5", ".#", ".5#", ".#5", "1.#", "1.5#", "1#.5", "1#e3", "1e#", "1e#3", "1e3#", "1e-#", "1e-#3", "1e-3#", "1.5#3", "-.5#3"} {
			compare(t, strings.Replace(form, "#", sign, 1))
		}
	}
}

// TestFloatLong: P501: 5,000 digits ahead of e are a number and 5,001 are none, wherever the point stands; the exponent's are not among them.
func TestFloatLong(t *testing.T) {
	for _, row := range []string{"0", "1", "9", "90", "01"} {
		s := strings.Repeat(row, 5001)
		for _, at := range []int{0, 1, 2, 2500, 4999, 5000} {
			for _, sign := range []string{"", "+", "-"} {
				for _, behind := range []string{"", "e1", "E-999999999", "e+999999999"} {
					right, long := sign+s[:at]+"."+s[at:5000]+behind, sign+s[:at]+"."+s[at:5001]+behind
					compare(t, right)
					refuseFloat(t, long)
					if _, ok := Float(right); !ok {
						t.Errorf("P501: %s is a number", short(right))
					}
				}
			}
		}
		compare(t, s[:5000])
		compare(t, s[:5000]+"e999999999")
		refuseFloat(t, s[:5001], s[:5001]+"e1", s[:5001]+".", s[:5001]+".e1", s[:4999]+"..", s[:4999]+"x")
	}
	noughts, nines := strings.Repeat("0", 5000), strings.Repeat("9", 5000)
	check(t, "Float", Float, nines, num(false, nines, 0), true)
	check(t, "Float", Float, "."+nines+"e-999999999", num(false, nines, -1000004999), true)
	check(t, "Float", Float, "-1"+noughts[1:]+"e999999999", num(true, "1", 1000004998), true)
	check(t, "Float", Float, noughts[1:]+"1", num(false, "1", 0), true)
	check(t, "Float", Float, "."+noughts[1:]+"1", num(false, "1", -5000), true)
	refuseFloat(t, noughts+"1", noughts+".0", "0."+noughts, strings.Repeat("1", 1<<20), "."+strings.Repeat("1", 1<<20))
}

// TestFloatWords: P501: infinity and none, written in three ways each, and in all others that these letters have.
func TestFloatWords(t *testing.T) {
	for _, s := range []string{".inf", ".Inf", ".INF"} {
		check(t, "Float", Float, s, api.Number{What: 1}, true)
		check(t, "Float", Float, "+"+s, api.Number{What: 1}, true)
		check(t, "Float", Float, "-"+s, api.Number{Below: true, What: 1}, true)
		refuseInt(t, s, "+"+s, "-"+s)
		refuseFloat(t, "++"+s, "--"+s, "-+"+s, s[1:], "-"+s[1:], s+"e1", "1"+s, "0"+s, s+s, s+" ", " "+s, s+"\n", "."+s, s+".", s[:3], s[:2], s+"inity", s+"\x00", "- "+s)
	}
	for _, s := range []string{".nan", ".NaN", ".NAN"} {
		check(t, "Float", Float, s, api.Number{What: 2}, true)
		refuseInt(t, s, "+"+s, "-"+s)
		refuseFloat(t, "+"+s, "-"+s, "--"+s, s[1:], s+"e1", "1"+s, "0"+s, s+s, s+" ", " "+s, s+"\n", "."+s, s+".", s[:3], s[:2], s+"\x00")
	}
	for _, words := range []string{"iInNfF", "nNaAnN"} {
		for way := range 8 {
			s := "." + words[way&1:way&1+1] + words[2+way>>1&1:3+way>>1&1] + words[4+way>>2:5+way>>2]
			for _, sign := range []string{"", "+", "-"} {
				compare(t, sign+s)
			}
		}
	}
	refuseFloat(t, ".iNF", ".inF", ".InF", ".iNf", ".INf", ".Nan", ".nAn", ".NAn", ".naN", ".nAN", "Infinity", "infinity", "Inf", "NaN", "nan", ".infinity")
}

// TestAll: P501: every short row of the signs that matter.
func TestAll(t *testing.T) {
	each("+-.eE019", 6, func(s string) { compare(t, s) })
	each("0oxOX78fFgG- ", 4, func(s string) { compare(t, s) })
	each("+-.iInNfFaA", 4, func(s string) { compare(t, s) })
}

// TestLengths: P501: numbers of any length with noughts at either end, on either side of the point, the same ones at each run.
func TestLengths(t *testing.T) {
	chance := rand.New(rand.NewSource(5))
	row := func() string {
		b := make([]byte, chance.Intn(30))
		for i := range b {
			b[i] = "00000123456789"[chance.Intn(14)]
		}
		return string(b)
	}
	one := func(list ...string) string { return list[chance.Intn(len(list))] }
	for range 20000 {
		compare(t, one("", "+", "-")+row()+one("", ".")+row()+one("", "", "e", "E-", "e+")+one("", "3", "000", strconv.Itoa(chance.Intn(1000000000)), strconv.Itoa(chance.Int())))
		compare(t, one("", "-", "0o", "0x")+row()+one("", "f", "A"))
	}
}

// TestText: P502: each What, with a sign and without; nothing else of an infinity or of none is looked at.
func TestText(t *testing.T) {
	long := strings.Repeat("9", 7000)
	for _, x := range []struct {
		x    api.Number
		want string
	}{
		{num(false, "0", 0), "0"},
		{num(true, "0", 0), "-0"},
		{num(false, "125", 0), "125"},
		{num(true, "125", -1), "-125e-1"},
		{num(false, "3", 7), "3e7"},
		{num(true, "3", 7), "-3e7"},
		{num(false, "1", 1), "1e1"},
		{num(false, "1", -1), "1e-1"},
		{num(false, "1", 2000000000), "1e2000000000"},
		{num(false, "1", 1999999999), "1e1999999999"},
		{num(false, "1", 2000000001), "1e2000000001"},
		{num(true, "1", -2000000000), "-1e-2000000000"},
		{num(true, "1", -1999999999), "-1e-1999999999"},
		{num(true, "1", -2000000001), "-1e-2000000001"},
		{num(false, "1", math.MaxInt), "1e9223372036854775807"},
		{num(false, "1", math.MinInt), "1e-9223372036854775808"},
		{num(false, "", 0), ""},
		{num(true, "", 0), "-"},
		{num(false, "", 5), "e5"},
		{num(false, "0100", 2), "0100e2"},
		{num(false, "0", 2), "0e2"},
		{num(true, "-1x", 0), "--1x"},
		{num(false, "\xff\u20ac", 1), "\xff\u20ace1"},
		{num(true, long, -3), "-" + long + "e-3"},
		{api.Number{What: 1}, ".inf"},
		{api.Number{What: 1, Below: true}, "-.inf"},
		{api.Number{What: 1, Digits: "12", Exp: 3}, ".inf"},
		{api.Number{What: 1, Below: true, Digits: "12", Exp: 3}, "-.inf"},
		{api.Number{What: 2}, ".nan"},
		{api.Number{What: 2, Below: true}, ".nan"},
		{api.Number{What: 2, Below: true, Digits: "12", Exp: -3}, ".nan"},
		{api.Number{What: 3, Below: true, Digits: "12", Exp: -3}, "-12e-3"},
		{api.Number{What: -1, Digits: "12"}, "12"},
		{api.Number{What: math.MaxInt, Exp: 4}, "e4"},
	} {
		if got := Text(x.x); got != x.want {
			t.Errorf("P502: Text of %s: %s, not %s", shown(x.x), short(got), short(x.want))
		}
	}
}

// wantRight is P502's Right once more, by a pattern.
func wantRight(x api.Number) bool {
	switch {
	case x.What == 0 && x.Digits == "0", x.What == 1 && x.Digits == "", x.What == 2 && x.Digits == "" && !x.Below:
		return x.Exp == 0
	case x.What == 0:
		return bareForm.MatchString(x.Digits) && x.Exp >= -2000000000 && x.Exp <= 2000000000
	}
	return false
}

// TestRight: P502: every pairing of what the fields may be, held against the pattern.
func TestRight(t *testing.T) {
	long := strings.Repeat("5", 6000)
	rows := []string{"", "0", "00", "000", "1", "5", "9", "01", "10", "010", "101", "1001", "0101", "1010", "12345678901234567890", "100000000000000000001", "x", "1x", "x1", "1x1", "-1", "+1", "1-", "-0", " 1", "1 ", "1 1", "1.5", ".5", "1e3", "a", "f", "1f1", "/", ":", "1/1", "1:1", "\u0663", "1\uff111", "1\x001", "1\xb11", "1\n", ".inf", ".nan", long, long + "0", "0" + long, long + "x" + long}
	exps := []int{0, 1, -1, 7, -7, 1999999999, 2000000000, 2000000001, -1999999999, -2000000000, -2000000001, 1 << 32, -(1 << 32), math.MaxInt32, math.MinInt32, math.MaxInt, math.MinInt}
	for _, row := range rows {
		for _, exp := range exps {
			for _, what := range []int{0, 1, 2, 3, 4, -1, -2, 256, 257, 1 << 32, math.MaxInt, math.MinInt} {
				for _, below := range []bool{false, true} {
					x := api.Number{Below: below, Digits: row, Exp: exp, What: what}
					if got := Right(x); got != wantRight(x) {
						t.Errorf("P502: Right of %s: %t", shown(x), got)
					}
				}
			}
		}
	}
}

// TestRightExamples: P502: the edges that the document names, told by hand.
func TestRightExamples(t *testing.T) {
	for _, x := range []api.Number{num(false, "0", 0), num(true, "0", 0), num(true, "1", 2000000000), num(false, "1", -2000000000), num(false, "101", 5), num(true, "5", 0), {What: 1}, {What: 1, Below: true}, {What: 2}} {
		if !Right(x) {
			t.Errorf("P502: Right of %s: false", shown(x))
		}
	}
	for _, x := range []api.Number{{}, {Below: true}, num(false, "", 1), num(false, "0", 1), num(false, "0", -1), num(true, "0", 5), num(false, "00", 0), num(false, "10", 0), num(false, "01", 0), num(false, "1", 2000000001), num(false, "1", -2000000001), num(false, "-1", 0), {What: 1, Digits: "0"}, {What: 1, Exp: 1}, {What: 2, Below: true}, {What: 2, Digits: "0"}, {What: 2, Exp: -1}, {What: 3}, {What: 3, Digits: "1"}, {What: -1, Digits: "1"}} {
		if Right(x) {
			t.Errorf("P502: Right of %s: true", shown(x))
		}
	}
}

// texts are numbers of all kinds, and what is none.
func texts() []string {
	list := []string{"", "0", "-0", "+0", "0.0", "-0.00", "0e7", "1", "-1", "10", "-1200", "007", "0o17", "0o12", "0x1F", "0xA0", "0x64", "1.5", "-12.50", ".5", "1.", "100.00", "1e3", "-.5e-3", "1E+3", "100e-2", "1e99999999", "1e-99999999", "1e999999999", "-1e-999999999", ".inf", "-.Inf", "+.INF", ".nan", ".NaN", ".NAN", "-.nan", "x", "1e", "1e3.5", "-0x1", " 1"}
	for _, n := range []int{1, 9, 20, 4999, 5000, 5001} {
		list = append(list, strings.Repeat("9", n), "-1"+strings.Repeat("0", n-1), strings.Repeat("0", n-1)+"5", "."+strings.Repeat("3", n), "0x"+strings.Repeat("f", n), "0o"+strings.Repeat("7", n))
	}
	return list
}

// TestReadAgain: P501, P502: Text of what Int and Float answer, read by Float again, is that number, while it keeps within what Float takes (9 digits of an exponent, 5,000 ahead of it).
func TestReadAgain(t *testing.T) {
	for _, s := range texts() {
		for _, call := range []tell{Int, Float} {
			x, ok := call(s)
			if !ok {
				continue
			}
			again, right := Float(Text(x))
			if max(x.Exp, -x.Exp) > 999999999 || len(x.Digits) > 5000 {
				if right || again != (api.Number{}) {
					t.Errorf("P501: %s was read: %s", short(Text(x)), shown(again))
				}
				continue
			}
			if !right || again != x {
				t.Errorf("P502: %s of %s is read as %s, %t", short(Text(x)), shown(x), shown(again), right)
			}
			if whole, right := Int(Text(x)); x.What == 0 && x.Exp == 0 && x.Digits != "0" && (!right || whole != x) {
				t.Errorf("P502: %s of %s is read as %s, %t", short(Text(x)), shown(x), shown(whole), right)
			}
		}
	}
	for _, s := range []string{"10e999999999", ".1e-999999999"} {
		x, _ := Float(s)
		if _, ok := Float(Text(x)); ok || !Right(x) {
			t.Errorf("P501: %s has 10 digits behind e", Text(x))
		}
	}
}

// answers are what the calls tell of all these texts.
func answers(list []string) []string {
	var all []string
	for _, s := range list {
		for _, call := range []tell{Int, Float} {
			x, ok := call(s)
			all = append(all, strconv.FormatBool(ok), strconv.FormatBool(x.Below), x.Digits, strconv.Itoa(x.Exp), strconv.Itoa(x.What), Text(x), strconv.FormatBool(Right(x)))
		}
		odd := api.Number{Digits: s, Exp: len(s), What: len(s) % 4}
		all = append(all, Text(odd), strconv.FormatBool(Right(odd)))
	}
	return all
}

// TestAgain: P503: the same calls tell the same, whatever was asked between them, and whoever asks beside.
func TestAgain(t *testing.T) {
	list := texts()
	want := answers(list)
	done := make(chan []string)
	for range 4 {
		go func() {
			Float("-" + strings.Repeat("8", 4000) + ".5e-77")
			done <- answers(list)
		}()
	}
	for range 4 {
		if !slices.Equal(<-done, want) {
			t.Error("P503: another answer to the same call")
		}
	}
	if !slices.Equal(answers(list), want) {
		t.Error("P503: another answer to the same call")
	}
}

// handed is s in memory of its own, which the test can turn.
func handed(s string) ([]byte, string) {
	b := []byte(s)
	return b, unsafe.String(unsafe.SliceData(b), len(b))
}

// within tells whether s lies in the memory of whole.
func within(s, whole string) bool {
	first, at := uintptr(unsafe.Pointer(unsafe.StringData(whole))), uintptr(unsafe.Pointer(unsafe.StringData(s)))
	return first <= at && at < first+uintptr(len(whole))
}

// TestReadMemory: P503: the digits that are told are no piece of what was handed in, and what was handed in stays.
func TestReadMemory(t *testing.T) {
	for _, s := range texts() {
		for _, call := range []tell{Int, Float} {
			want, _ := call(strings.Clone(s))
			want.Digits = strings.Clone(want.Digits)
			b, in := handed(s)
			got, _ := call(in)
			if string(b) != s {
				t.Fatalf("P503: %s was changed", short(s))
			}
			if got.Digits != "" && within(got.Digits, in) {
				t.Errorf("P503: the digits of %s share memory with what was handed in", short(s))
			}
			for i := range b { // nothing that is told may turn with it
				b[i] = 'x'
			}
			if got != want {
				t.Errorf("P503: the answer to %s turned", short(s))
			}
		}
	}
}

// TestTextMemory: P503: a text that is told is no piece of the digits that were handed in, not even where it is the same.
func TestTextMemory(t *testing.T) {
	for _, row := range []string{"5", "12", "00100", "x", strings.Repeat("9", 6000)} {
		for _, exp := range []int{0, 3} {
			for _, what := range []int{0, 1, 2, 3} {
				want := strings.Clone(Text(api.Number{Digits: row, Exp: exp, What: what}))
				b, in := handed(row)
				x := api.Number{Digits: in, Exp: exp, What: what}
				got := Text(x)
				Right(x)
				if string(b) != row || x != (api.Number{Digits: row, Exp: exp, What: what}) {
					t.Fatalf("P503: %s was changed", short(row))
				}
				if within(got, in) {
					t.Errorf("P503: Text of %s shares memory with what was handed in", short(row))
				}
				for i := range b {
					b[i] = 'y'
				}
				if got != want {
					t.Errorf("P503: Text of %s turned", short(row))
				}
			}
		}
	}
}

// TestLists: the functions below the faces tell the same of lists of each kind of digit.
func TestLists(t *testing.T) {
	each("0159x", 4, func(s string) {
		checkList[byte](t, s)
		checkList[int](t, s)
	})
}

// checkList holds what a list tells of its digits against the text that they were read from.
func checkList[D digit](t *testing.T, s string) {
	t.Helper()
	l, right := read[D](s)
	if right == strings.Contains(s, "x") {
		t.Errorf("read of %q: %t", s, right)
	}
	if !right {
		return
	}
	if l.text() != s || l.trimmed().text() != strings.TrimRight(s, "0") || l.bare() != bareForm.MatchString(s) {
		t.Errorf("list of %q: %q, %q, %t", s, l.text(), l.trimmed().text(), l.bare())
	}
	if want, _ := strconv.Atoi(s); l.sum() != D(want) {
		t.Errorf("sum of %q: %d", s, l.sum())
	}
}
