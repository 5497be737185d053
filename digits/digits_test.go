package digits

import (
	"math"
	"math/big"
	"math/rand"
	"slices"
	"strconv"
	"strings"
	"testing"
	"unsafe"
)

// patterns are the digits of each base that there is.
func patterns() map[int]string {
	return map[int]string{8: "01234567", 10: "0123456789", 16: "0123456789abcdefABCDEF"}
}

// right tells whether P401 takes s for digits in base.
func right(s string, base int) bool {
	all := patterns()[base]
	return all != "" && len(s) >= 1 && len(s) <= 5000 && strings.Trim(s, all) == ""
}

// great is the number of s, nought if it is none.
func great(s string, base int) *big.Int {
	n := new(big.Int)
	if right(s, base) {
		n.SetString(s, base)
	}
	return n
}

// short is s as it is told in a test's error.
func short(s string) string {
	if len(s) <= 40 {
		return strconv.Quote(s)
	}
	return strconv.Quote(s[:20]) + ".." + strconv.Quote(s[len(s)-20:]) + " (" + strconv.Itoa(len(s)) + ")"
}

func checkPlain(t *testing.T, s string, base int, want string, ok bool) {
	t.Helper()
	got, told := Plain(s, base)
	if got != want || told != ok {
		t.Errorf("P401: Plain of %s, %d: %s, %t, not %s, %t", short(s), base, short(got), told, short(want), ok)
	}
}

// comparePlain holds Plain against the library's great numbers.
func comparePlain(t *testing.T, s string, base int) {
	t.Helper()
	if !right(s, base) {
		checkPlain(t, s, base, "", false)
		return
	}
	checkPlain(t, s, base, great(s, base).String(), true)
}

// comparePair holds Add and Less against the library's great numbers.
func comparePair(t *testing.T, a, b string) {
	t.Helper()
	x, y := great(a, 10), great(b, 10)
	if got, want := Add(a, b), new(big.Int).Add(x, y).String(); got != want {
		t.Errorf("P401: Add of %s, %s: %s, not %s", short(a), short(b), short(got), short(want))
	}
	if got, want := Less(a, b), x.Cmp(y) < 0; got != want {
		t.Errorf("P401: Less of %s, %s: %t", short(a), short(b), got)
	}
}

// compareTimes holds Times against the library's great numbers.
func compareTimes(t *testing.T, a string, n int) {
	t.Helper()
	want := new(big.Int)
	if n >= 0 && n <= 1000000 {
		want.Mul(great(a, 10), big.NewInt(int64(n)))
	}
	if got := Times(a, n); got != want.String() {
		t.Errorf("P401: Times of %s, %d: %s, not %s", short(a), n, short(got), short(want.String()))
	}
}

// each does it with every row of at most size signs.
func each(signs string, size int, do func(s string)) {
	rows := []string{""}
	for range size + 1 {
		var longer []string
		for _, s := range rows {
			do(s)
			for _, c := range signs {
				longer = append(longer, s+string(c))
			}
		}
		rows = longer
	}
}

// TestPlainExamples: P401: what the document tells, and numbers worked out by hand.
func TestPlainExamples(t *testing.T) {
	for _, x := range []struct {
		s    string
		base int
		want string
	}{
		{"ff", 16, "255"},
		{"fF", 16, "255"},
		{"Ff", 16, "255"},
		{"FF", 16, "255"},
		{"10", 8, "8"},
		{"10", 10, "10"},
		{"10", 16, "16"},
		{"17", 8, "15"},
		{"1234567", 8, "342391"},
		{"89abcdef", 16, "2309737967"},
		{"100000000", 16, "4294967296"},
		{"3b9ac9ff", 16, "999999999"},
		{"3b9aca00", 16, "1000000000"},
		{"7346544777", 8, "999999999"},
		{"7346545000", 8, "1000000000"},
		{"de0b6b3a7640000", 16, "1000000000000000000"},
		{"ffffffffffffffff", 16, "18446744073709551615"},
		{"10000000000000000", 16, "18446744073709551616"},
		{"1777777777777777777777", 8, "18446744073709551615"},
		{"123456789012345678901234567890", 10, "123456789012345678901234567890"},
	} {
		checkPlain(t, x.s, x.base, x.want, true)
	}
}

// TestPlainSigns: P401: each byte alone, and beside digits, in each base: the digits, their neighbours, and all others.
func TestPlainSigns(t *testing.T) {
	for base, all := range patterns() {
		for c := range 256 {
			sign := string([]byte{byte(c)})
			if strings.Contains(all, sign) {
				value, _ := strconv.ParseInt(sign, base, 64)
				checkPlain(t, sign, base, strconv.Itoa(int(value)), true)
				checkPlain(t, "1"+sign, base, strconv.Itoa(base+int(value)), true)
				continue
			}
			for _, s := range []string{sign, sign + "1", "1" + sign, "1" + sign + "1", "0" + sign, strings.Repeat("1", 30) + sign} {
				checkPlain(t, s, base, "", false)
			}
		}
	}
	for _, x := range []struct {
		s    string
		base int
	}{
		{"8", 8}, {"9", 8}, {"78", 8}, {"97", 8}, {"a", 8}, {"F", 8}, {"a", 10}, {"A", 10}, {"1f", 10}, {"1e3", 10}, {":", 10}, {"/", 10},
		{"g", 16}, {"G", 16}, {"fg", 16}, {"Gf", 16}, {"@", 16}, {"`", 16}, {"0x1", 16}, {"0X1", 16}, {"x1", 16}, {"0o7", 8}, {"o7", 8},
		{"+1", 10}, {"-1", 10}, {"1-", 10}, {"-", 10}, {"+", 16}, {" 1", 10}, {"1 ", 10}, {"1 2", 10}, {" ", 10}, {"\t1", 8}, {"1\n", 16},
		{"1.5", 10}, {".5", 10}, {"1.", 10}, {".", 10}, {"1_000", 10}, {"1,000", 10}, {"\x00", 10}, {"1\x00", 10},
		{"\u0663", 10}, {"\uff11", 10}, {"\uff21", 16}, {"1\u00b2", 10}, {"\xff", 16}, {"\xb1", 10},
	} {
		checkPlain(t, x.s, x.base, "", false)
	}
}

// TestPlainBases: P401: no other base, whatever the digits.
func TestPlainBases(t *testing.T) {
	bases := []int{math.MinInt, math.MinInt32, -256, -16, -10, -8, -1, 100, 256, 256 + 8, 256 + 10, 256 + 16, 65536 + 10, math.MaxInt32, math.MaxInt}
	for base := range 40 {
		bases = append(bases, base)
	}
	for _, base := range bases {
		for _, s := range []string{"0", "1", "7", "10", "000", strings.Repeat("1", 5000)} {
			comparePlain(t, s, base)
		}
		for _, s := range []string{"", "-1", "z", strings.Repeat("1", 5001)} {
			checkPlain(t, s, base, "", false)
		}
	}
}

// TestPlainNoughts: P401: noughts alone are one nought, those at the beginning are none, others stay.
func TestPlainNoughts(t *testing.T) {
	for base := range patterns() {
		for _, n := range []int{1, 2, 7, 8, 9, 10, 17, 100, 4999, 5000} {
			noughts := strings.Repeat("0", n)
			checkPlain(t, noughts, base, "0", true)
			checkPlain(t, noughts[1:]+"1", base, "1", true)
			checkPlain(t, noughts[1:]+"7", base, "7", true)
			comparePlain(t, "1"+noughts[1:], base)
		}
		checkPlain(t, strings.Repeat("0", 5001), base, "", false)
		checkPlain(t, strings.Repeat("0", 5000)+"1", base, "", false)
	}
	checkPlain(t, "00100", 10, "100", true)
	checkPlain(t, "00fF", 16, "255", true)
	checkPlain(t, "0010", 8, "8", true)
	checkPlain(t, "0", 8, "0", true)
}

// TestPlainLong: P401: 5,000 digits are a number, 5,001 are none; one wrong sign anywhere among them, neither.
func TestPlainLong(t *testing.T) {
	for base, all := range patterns() {
		for _, c := range []string{"1", all[len(all)-1:], all[1:]} {
			s := strings.Repeat(c, 5001)
			for _, n := range []int{4999, 5000, 5001} {
				comparePlain(t, s[:n], base)
			}
			checkPlain(t, s[:5001], base, "", false)
			for _, at := range []int{0, 1, 7, 8, 9, 2500, 4998, 4999} {
				checkPlain(t, s[:at]+"g"+s[at+1:5000], base, "", false)
			}
		}
	}
	nines := strings.Repeat("9", 5000)
	checkPlain(t, nines, 10, nines, true)
	checkPlain(t, nines+"9", 10, "", false)
	checkPlain(t, strings.Repeat("9", 1<<20), 10, "", false)
}

// TestPlainLengths: P401: every length around those at which parts and groups of digits end, in each base.
func TestPlainLengths(t *testing.T) {
	chance := rand.New(rand.NewSource(4))
	for base, all := range patterns() {
		for n := range 200 {
			b := make([]byte, n)
			for range 10 {
				for i := range b {
					b[i] = all[chance.Intn(len(all))]
				}
				comparePlain(t, string(b), base)
			}
			comparePlain(t, strings.Repeat(all[len(all)-1:], n), base)
			comparePlain(t, "1"+strings.Repeat("0", n), base)
		}
	}
}

// TestPlainGroups: P401: numbers just beside the powers of ten, where noughts stand within and at the end.
func TestPlainGroups(t *testing.T) {
	power := big.NewInt(1)
	for range 120 {
		for _, beside := range []int64{-2, -1, 0, 1, 2} {
			n := new(big.Int).Add(power, big.NewInt(beside))
			if n.Sign() < 0 {
				continue
			}
			for base := range patterns() {
				checkPlain(t, n.Text(base), base, n.String(), true)
				checkPlain(t, strings.ToUpper(n.Text(base)), base, n.String(), true)
			}
		}
		power.Mul(power, big.NewInt(10))
	}
}

// TestPlainAll: P401: every short row of the signs that matter, in each base.
func TestPlainAll(t *testing.T) {
	each("0178 9afFgG-.", 4, func(s string) {
		for _, base := range []int{8, 10, 16, 2, 9} {
			comparePlain(t, s, base)
		}
	})
}

// numbers are texts of all kinds: numbers of many lengths, with noughts at their beginnings, and what is none.
func numbers() []string {
	list := []string{"", "0", "00", "000", "1", "01", "2", "5", "7", "007", "8", "9", "09", "10", "11", "19", "90", "99", "099", "100", "101", "110", "999", "0999", "1000",
		"x", "-", "-1", "-3", "+1", " 1", "1 ", "1 2", "1.5", ".", "1e3", "0x10", "a", "ff", "9a", "a9", "1\x00", "\u0663",
		"999999999", "1000000000", "4294967295", "4294967296", "9223372036854775807", "9223372036854775808", "18446744073709551615", "18446744073709551616"}
	for _, n := range []int{8, 9, 10, 18, 19, 20, 40, 4999, 5000, 5001} {
		list = append(list, strings.Repeat("9", n), "1"+strings.Repeat("0", n-1), strings.Repeat("0", n), strings.Repeat("0", n-1)+"5", strings.Repeat("0", n/2)+strings.Repeat("9", n-n/2), strings.Repeat("9", n-1)+"8", "8"+strings.Repeat("9", n-1), strings.Repeat("9", n-1)+"x")
	}
	return list
}

// TestPairs: P401: Add and Less of all pairs of such texts.
func TestPairs(t *testing.T) {
	list := numbers()
	for _, a := range list {
		for _, b := range list {
			comparePair(t, a, b)
		}
	}
}

// TestPairsAll: P401: Add and Less of all pairs of small numbers, with and without noughts at the beginning.
func TestPairsAll(t *testing.T) {
	for a := range 220 {
		for b := range 220 {
			for _, ahead := range []string{"", "0", "000"} {
				x, y := ahead+strconv.Itoa(a), strconv.Itoa(b)
				if Add(x, y) != strconv.Itoa(a+b) || Add(y, x) != strconv.Itoa(a+b) {
					t.Errorf("P401: Add of %q, %q: %q, %q", x, y, Add(x, y), Add(y, x))
				}
				if Less(x, y) != (a < b) || Less(y, x) != (b < a) {
					t.Errorf("P401: Less of %q, %q: %t, %t", x, y, Less(x, y), Less(y, x))
				}
			}
		}
	}
}

// TestAddCarries: P401: sums that get one digit more, by a carry that goes through all of them.
func TestAddCarries(t *testing.T) {
	for _, n := range []int{1, 2, 8, 9, 10, 17, 18, 19, 100, 4999, 5000} {
		nines, power := strings.Repeat("9", n), "1"+strings.Repeat("0", n)
		for _, got := range []string{Add(nines, "1"), Add("1", nines), Add("0001", nines)} {
			if got != power {
				t.Errorf("P401: %d nines and 1: %s", n, short(got))
			}
		}
		if got := Add(nines, nines); got != "1"+nines[1:]+"8" {
			t.Errorf("P401: %d nines twice: %s", n, short(got))
		}
		if got := Add(nines, ""); got != nines {
			t.Errorf("P401: %d nines and nothing: %s", n, short(got))
		}
	}
	for _, pair := range [][2]string{{"5", "5"}, {"1", "9"}, {"95", "5"}, {"5", "95"}, {"50", "50"}, {"999", "1"}} {
		comparePair(t, pair[0], pair[1])
	}
}

// TestNone: P401: what is no number is nought, on either side: more than 5,000 digits are none, noughts among them or not.
func TestNone(t *testing.T) {
	for _, none := range []string{"", "x", "-1", "+1", " ", "1 ", "1.0", "0x1", "a", "F", strings.Repeat("1", 5001), strings.Repeat("0", 5000) + "1", strings.Repeat("9", 70000)} {
		if Add(none, "12") != "12" || Add("12", none) != "12" || Add(none, none) != "0" || Add(none, "012") != "12" {
			t.Errorf("P401: Add of %s", short(none))
		}
		if !Less(none, "1") || Less("1", none) || Less(none, "0") || Less("0", none) || Less(none, none) || Less(none, "") || Less("", none) {
			t.Errorf("P401: Less of %s", short(none))
		}
		for _, n := range []int{0, 1, 7, 1000000} {
			if got := Times(none, n); got != "0" {
				t.Errorf("P401: Times of %s, %d: %s", short(none), n, short(got))
			}
		}
	}
}

// TestTimes: P401: all such texts times the edges of n, and what lies within.
func TestTimes(t *testing.T) {
	for _, a := range numbers() {
		for _, n := range []int{0, 1, 2, 3, 7, 8, 9, 10, 11, 16, 99, 100, 255, 256, 257, 1000, 65535, 65536, 99999, 100000, 123456, 999983, 999999, 1000000} {
			compareTimes(t, a, n)
		}
		for _, n := range []int{1000001, 1000002, 2000000, math.MaxInt32, math.MaxInt, -1, -2, -10, -1000000, -1000001, math.MinInt32, math.MinInt} {
			if got := Times(a, n); got != "0" {
				t.Errorf("P401: Times of %s, %d: %s", short(a), n, short(got))
			}
		}
	}
	for n := range 1000 {
		for _, a := range []string{"0", "1", "9", "10", "99", "0012", "123456789", "999999999999"} {
			compareTimes(t, a, n)
			compareTimes(t, a, 1000000-n)
		}
	}
}

// TestTimesLong: P401: what is answered may be longer than what is handed in may be.
func TestTimesLong(t *testing.T) {
	nines := strings.Repeat("9", 5000)
	if got := Times(nines, 1000000); got != nines+"000000" {
		t.Errorf("P401: %s", short(got))
	}
	if got := Times(nines, 999999); got != "999998"+nines[6:]+"000001" {
		t.Errorf("P401: %s", short(got))
	}
	if got := Add(Times(nines, 10), "1"); got != "1" {
		t.Errorf("P401: 5,001 digits are no number: %s", short(got))
	}
}

// TestChance: P401: pairs and products of numbers of any length, the same ones at each run.
func TestChance(t *testing.T) {
	chance := rand.New(rand.NewSource(44))
	row := func() string {
		b := make([]byte, 1+chance.Intn(60))
		for i := range b {
			b[i] = "0123456789990"[chance.Intn(13)]
		}
		return string(b)
	}
	for range 3000 {
		a, b := row(), row()
		comparePair(t, a, b)
		comparePair(t, a, a[:len(a)-1]+b[:1])
		compareTimes(t, a, chance.Intn(1000001))
		comparePlain(t, a, 16)
		comparePlain(t, strings.NewReplacer("8", "7", "9", "7").Replace(a), 8)
	}
}

// answers are what the calls tell of all these texts.
func answers(list []string) []string {
	var all []string
	for i, a := range list {
		b := list[len(list)-1-i]
		for _, base := range []int{8, 10, 16, 2} {
			got, ok := Plain(a, base)
			all = append(all, got, strconv.FormatBool(ok))
		}
		all = append(all, Add(a, b), strconv.FormatBool(Less(a, b)), Times(a, 7), Times(a, 1000001))
	}
	return all
}

// TestAgain: P402: the same calls tell the same, whatever was asked between them, and whoever asks beside.
func TestAgain(t *testing.T) {
	list := numbers()
	want := answers(list)
	done := make(chan []string)
	for range 4 {
		go func() {
			Times(strings.Repeat("9", 5000), 999999)
			done <- answers(list)
		}()
	}
	for range 4 {
		if !slices.Equal(<-done, want) {
			t.Error("P402: another answer to the same call")
		}
	}
	if !slices.Equal(answers(list), want) {
		t.Error("P402: another answer to the same call")
	}
}

// within tells whether s lies in the memory of whole.
func within(s, whole string) bool {
	first, at := uintptr(unsafe.Pointer(unsafe.StringData(whole))), uintptr(unsafe.Pointer(unsafe.StringData(s)))
	return first <= at && at < first+uintptr(len(whole))
}

// TestOwnMemory: P402: what is told is no piece of what was handed in, not even where it is the same text, and what was handed in stays.
func TestOwnMemory(t *testing.T) {
	for _, s := range []string{"12", "0012", "00", "5000000000", strings.Repeat("9", 5000), strings.Repeat("0", 4000) + strings.Repeat("1", 1000)} {
		b := []byte(s)
		handed := unsafe.String(&b[0], len(b))
		sum, product, other := Add(handed, "0"), Times(handed, 1), Add("", handed)
		plain, _ := Plain(handed, 10)
		wide, _ := Plain(handed, 16)
		Less(handed, handed)
		if string(b) != s {
			t.Fatalf("P402: %s was changed", short(s))
		}
		want := great(s, 10).String()
		for _, got := range []string{sum, product, other, plain, wide} {
			if within(got, handed) {
				t.Errorf("P402: %s shares memory with what was handed in", short(got))
			}
		}
		for i := range b { // nothing that is told may turn with it
			b[i] = 'x'
		}
		if sum != want || product != want || other != want || plain != want || wide != great(s, 16).String() {
			t.Errorf("P402: the answers to %s turned", short(s))
		}
	}
}

// TestLists: the functions below the faces tell the same of lists of each kind of digit, in any base.
func TestLists(t *testing.T) {
	for _, base := range []uint64{2, 10, 256} {
		for a := range uint64(70) {
			for b := range uint64(70) {
				checkLists[byte](t, a, b, base)
				checkLists[uint32](t, a, b, base)
			}
		}
	}
	for _, a := range []uint64{0, 1, group - 1, group, group + 1, 1 << 32, 1 << 62} {
		for _, b := range []uint64{0, 1, group - 1, group, 1 << 32, 1 << 62} {
			checkLists[uint32](t, a, b, group)
		}
	}
}

// checkLists holds a sum, a product and an order of lists against those of the numbers.
func checkLists[D digit](t *testing.T, a, b, base uint64) {
	t.Helper()
	listed := func(n uint64) list[D] { return list[D](nil).carried(n, base) }
	if got := listed(a).plus(listed(b), base); !slices.Equal(got, listed(a+b)) {
		t.Errorf("plus of %d, %d in base %d: %v", a, b, base, got)
	}
	if a < 1<<32 && b < 1<<32 {
		if got := listed(a).timesPlus(b, a, base); !slices.Equal(got, listed(a*b+a)) {
			t.Errorf("timesPlus of %d, %d in base %d: %v", a, b, base, got)
		}
	}
	if listed(a).below(listed(b)) != (a < b) {
		t.Errorf("below of %d, %d in base %d", a, b, base)
	}
}
