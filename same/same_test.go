package same

import (
	"math"
	"slices"
	"strconv"
	"strings"
	"testing"

	"marginalia/api"
	"marginalia/schema"
)

const y = "tag:yaml.org,2002:"

// tagOf answers the tag that a sign stands for in what made reads.
func tagOf(sign byte) string {
	switch sign {
	case 's':
		return y + "str"
	case 'i':
		return y + "int"
	case 'f':
		return y + "float"
	case 'b':
		return y + "bool"
	case 'n':
		return y + "null"
	case '[':
		return y + "seq"
	case '{':
		return y + "map"
	}
	return "x:" + string([]byte{sign})
}

// made is the graph that is written so: its nodes parted by |, of each a sign ([: a sequence, {: a mapping, another: a scalar with that tag) and behind it the Kids, or the text. It has no roots.
func made(s string) api.Graph {
	var g api.Graph
	if s == "" {
		return g
	}
	for _, x := range strings.Split(s, "|") {
		node := api.Node{Kind: api.NScalar, Tag: tagOf(x[0])}
		switch x[0] {
		case '[':
			node.Kind, node.Kids = api.NSeq, numbers(x[1:])
		case '{':
			node.Kind, node.Kids = api.NMap, numbers(x[1:])
		default:
			node.Text = x[1:]
		}
		g.Nodes = append(g.Nodes, node)
	}
	return g
}

// numbers are those that stand in s.
func numbers(s string) []int {
	var list []int
	for _, x := range strings.Fields(s) {
		n, err := strconv.Atoi(x)
		if err != nil {
			panic(err)
		}
		list = append(list, n)
	}
	return list
}

// checkEqual: P2002: whether a and b are Equal, said in either order.
func checkEqual(t *testing.T, what string, g api.Graph, a, b int, want bool) {
	t.Helper()
	if got := Equal(g, a, b); got != want {
		t.Errorf("P2002: %s: Equal of %d and %d: %v", what, a, b, got)
	}
	if got := Equal(g, b, a); got != want {
		t.Errorf("P2002: %s: Equal of %d and %d: %v", what, b, a, got)
	}
}

// checkTwice: P2002: the first mapping with two keys that are Equal, none if want is below 0.
func checkTwice(t *testing.T, what string, g api.Graph, want int) {
	t.Helper()
	node, is := Twice(g)
	if is != (want >= 0) || node != max(want, 0) {
		t.Errorf("P2002: %s: Twice: %d, %v, not %d", what, node, is, want)
	}
}

// checkValues: P2001: whether a and b are one, said in either order.
func checkValues(t *testing.T, a, b api.Value, want bool) {
	t.Helper()
	if got := Values(a, b); got != want {
		t.Errorf("P2001: %v and %v: %v", a, b, got)
	}
	if got := Values(b, a); got != want {
		t.Errorf("P2001: %v and %v: %v", b, a, got)
	}
}

// number is a value of this Kind that is a number.
func number(kind int, below bool, digits string, exp, what int) api.Value {
	return api.Value{Kind: kind, Number: api.Number{Below: below, Digits: digits, Exp: exp, What: what}}
}

// TestValuesEach: P2001: values of which no two are one, each Kind among them.
func TestValuesEach(t *testing.T) {
	list := []api.Value{{}, {Kind: api.VNull}, {Kind: api.VBool}, {Kind: api.VBool, True: true}, {Kind: 6}, {Kind: -1}, {Kind: math.MaxInt}}
	for _, text := range []string{"", "a", "b", "A", "ab", "a ", " a", "a\n", "é", "e\u0301", "\x00", "\xff", "\xfe", "\ufffd", "1", "true", "null", strings.Repeat("a", 100000), strings.Repeat("a", 100001)} {
		list = append(list, api.Value{Kind: api.VStr, Text: text})
	}
	long := strings.Repeat("7", 5000)
	for _, kind := range []int{api.VInt, api.VFloat} {
		for _, below := range []bool{false, true} {
			for _, digits := range []string{"1", "2", "11", "12", "101", "9", long, long[1:], long[1:] + "8", "8" + long[1:]} {
				for _, exp := range []int{-2000000000, -1, 0, 1, 2, 2000000000} {
					list = append(list, number(kind, below, digits, exp, 0))
				}
			}
			list = append(list, number(kind, below, "0", 0, 0), number(kind, below, "", 0, infinity))
		}
		list = append(list, number(kind, false, "", 0, noNumber))
	}
	for at, a := range list {
		for place, b := range list {
			if Values(a, b) != (at == place) {
				t.Fatalf("P2001: %v and %v: %v", a, b, at != place)
			}
		}
	}
}

// TestValuesFields: P2001: what is of no meaning for a Kind does not count.
func TestValuesFields(t *testing.T) {
	texts := []string{"", "a", "b"}
	some := []api.Number{{}, {Digits: "1"}, {Below: true, Digits: "2", Exp: 3}, {What: 1}, {What: 2}}
	var odd []api.Value
	for _, text := range texts {
		for _, truth := range []bool{false, true} {
			for _, x := range some {
				odd = append(odd, api.Value{True: truth, Number: x, Text: text})
			}
		}
	}
	for kind := -1; kind < 8; kind++ {
		for _, a := range odd {
			for _, b := range odd {
				a.Kind, b.Kind = kind, kind
				want := true
				switch kind {
				case api.VBool:
					want = a.True == b.True
				case api.VInt, api.VFloat:
					want = a.Number == b.Number
				case api.VStr:
					want = a.Text == b.Text
				}
				checkValues(t, a, b, want)
				b.Kind++
				checkValues(t, a, b, false)
			}
		}
	}
}

// TestValuesOfNoNumber: P2001: a NaN is itself, and infinity has a sign alone, whatever else stands there.
func TestValuesOfNoNumber(t *testing.T) {
	for _, kind := range []int{api.VInt, api.VFloat} {
		for _, below := range []bool{false, true} {
			for _, digits := range []string{"", "0", "12"} {
				for _, exp := range []int{0, 5} {
					checkValues(t, number(kind, false, "", 0, noNumber), number(kind, below, digits, exp, noNumber), true)
					checkValues(t, number(kind, true, "", 0, infinity), number(kind, below, digits, exp, infinity), below)
					checkValues(t, number(kind, false, "", 0, infinity), number(kind, below, digits, exp, noNumber), false)
					checkValues(t, number(kind, below, digits, exp, 0), number(kind, below, digits, exp, noNumber), false)
					checkValues(t, number(kind, below, digits, exp, 0), number(kind, below, digits, exp, infinity), false)
				}
			}
		}
	}
}

// TestValuesNoughts: P2001: numbers that are the same, though a nought stands at an end of one of them.
func TestValuesNoughts(t *testing.T) {
	const most = math.MaxInt
	for _, x := range []struct {
		digits string
		exp    int
		other  string
		power  int
		want   bool
	}{
		{"10", 0, "1", 1, true},
		{"10", 0, "1", 0, false},
		{"01", 0, "1", 0, true},
		{"0120", -1, "12", 0, true},
		{"1200", -3, "120", -2, true},
		{"1200", -3, "120", -3, false},
		{"102", 0, "12", 0, false},
		{"00", 0, "0", 0, true},
		{"0", 7, "0", -7, true},
		{"000", 7, "0", 0, true},
		{"", 0, "0", 0, false},
		{"", 0, "", 0, true},
		{"", 0, "", 1, false},
		{"x", 0, "x", 0, true},
		{"x0", 0, "x", 1, false},
		{"0x", 0, "x", 0, false},
		{"x", 0, "1", 0, false},
		{"1.0", 0, "1", 0, false},
		{"٣", 0, "٣", 0, true},
		{"\xff", 0, "\xff", 0, true},
		// Exponents at the end of what there is.
		{"1", most, "1", math.MinInt, false},
		{"10", most, "1", math.MinInt, false},
		{"10", most, "1", most, false},
		{"10", most, "10", most, true},
		{"100", most - 1, "10", most, true},
		{"100", most - 1, "1", most, false},
		{"1000", most - 2, "10", most, true},
		{"1000", most - 3, "1", most, true},
		{"10", math.MinInt, "1", math.MinInt + 1, true},
		{"1", math.MinInt, "1", math.MinInt, true},
		{"0", math.MinInt, "0", most, true},
	} {
		for _, kind := range []int{api.VInt, api.VFloat} {
			for _, below := range []bool{false, true} {
				a, b := number(kind, below, x.digits, x.exp, 0), number(kind, below, x.other, x.power, 0)
				checkValues(t, a, b, x.want)
				b.Number.Below = !below
				checkValues(t, a, b, false)
			}
		}
	}
}

// TestValuesWritten: P2001: what schema tells of texts: all of one line are one value, those of another line another.
func TestValuesWritten(t *testing.T) {
	tens := strings.Repeat("0", 4000)
	lines := [][]string{
		{"null|", "null|~", "null|Null", "null|NULL", "null|null"},
		{"bool|true", "bool|True", "bool|TRUE"},
		{"bool|false", "bool|False", "bool|FALSE"},
		{"int|31", "int|+31", "int|031", "int|0x1F", "int|0x1f", "int|0x001F", "int|0o37", "int|0o037"},
		{"int|-31", "int|-031"},
		{"int|310", "int|0x136", "int|0o466"},
		{"int|0", "int|-0", "int|+0", "int|000", "int|0x0", "int|0o0"},
		{"int|1", "int|0x1", "int|0o1"},
		{"int|-1"},
		{"int|1" + tens, "int|+1" + tens, "int|00001" + tens},
		{"int|2" + tens, "int|+02" + tens},
		{"float|1.5", "float|+1.50", "float|15e-1", "float|0.15e1", "float|150E-2", "float|.15e+1", "float|0001.5"},
		{"float|-1.5", "float|-15e-1"},
		{"float|1.4999999999999999999"},
		{"float|1.5000000000000000001"},
		{"float|31", "float|0x1F", "float|0o37", "float|3.1e1", "float|31.", "float|+31.0"},
		{"float|0.0", "float|0", "float|+0", "float|0e9", "float|.0", "float|0x0"},
		{"float|-0.0", "float|-0", "float|-0e9", "float|-.0"},
		{"float|.inf", "float|+.INF", "float|.Inf"},
		{"float|-.inf", "float|-.INF"},
		{"float|.nan", "float|.NaN", "float|.NAN"},
		{"float|1e999999999", "float|10e999999998", "float|1.0e+999999999"},
		{"str|"}, {"str|1"}, {"str|0x1"}, {"str|true"}, {"str|~"}, {"str|.nan"},
	}
	type told struct {
		line int
		v    api.Value
	}
	var list []told
	for line, texts := range lines {
		for _, x := range texts {
			tag, text, _ := strings.Cut(x, "|")
			v, e := schema.Value(y+tag, text)
			if e != api.OK {
				t.Fatalf("no value: %s", x)
			}
			list = append(list, told{line, v})
		}
	}
	for _, a := range list {
		for _, b := range list {
			checkValues(t, a.v, b.v, a.line == b.line)
		}
	}
}

// TestEqualScalars: P2002: scalars by Tag, value and Text.
func TestEqualScalars(t *testing.T) {
	for _, x := range []struct {
		graph string
		want  bool
	}{
		// The chapter's example.
		{"i1|i0x1", true},
		{"i1|i1", true}, {"i1|i2", false}, {"i1|s1", false}, {"i1|f1", false}, {"i-0|i0", true}, {"i10|i0o12", true}, {"i10|i0xA", true}, {"i10|i-10", false}, {"i10|i1", false},
		{"f1|f1.0", true}, {"f10|f1e1", true}, {"f1|f1.1", false}, {"f0.0|f-0.0", false}, {"f-0|f-0.0", true}, {"f.inf|f+.INF", true}, {"f.inf|f-.inf", false}, {"f.nan|f.NAN", true}, {"f.nan|f1", false}, {"f.nan|f.inf", false}, {"f0x10|f16", true},
		{"btrue|bTRUE", true}, {"btrue|bfalse", false}, {"bFalse|bfalse", true},
		{"n|n~", true}, {"nnull|nNULL", true}, {"n|s", false},
		{"s|s", true}, {"s|sa", false}, {"sa|sa", true}, {"sa|sA", false}, {"sa|saa", false}, {"s1|s0x1", false}, {"s1|s01", false}, {"sé|sé", true}, {"sé|se\u0301", false}, {"s\x00|s\x00", true}, {"s\x00|s", false},
		// One has no value of its tag, or neither.
		{"ix|ix", true}, {"ix|iy", false}, {"ix|i1", false}, {"i|i", true}, {"i|i0", false}, {"i1 |i1", false}, {"i1 |i1 ", true}, {"i0X1|i0X1", true}, {"i0X1|i0x1", false}, {"i1.0|i1", false}, {"i1.0|i1.0", true}, {"i1.0|i1.00", false},
		{"fx|fx", true}, {"fx|fX", false}, {"f|f0", false}, {"f.naN|f.nan", false}, {"f.naN|f.naN", true}, {"f1e|f1", false},
		{"byes|byes", true}, {"byes|btrue", false}, {"byes|bYes", false}, {"b|bfalse", false}, {"b|b", true},
		{"nx|n", false}, {"nx|nx", true}, {"nx|ny", false}, {"nnulL|nnull", false},
		// One tag has a value, the other has none.
		{"ix|sx", false}, {"ix|fx", false}, {"bx|nx", false},
		// Tags of their own: the Text counts.
		{"xa|xa", true}, {"xa|xb", false}, {"x1|x0x1", false}, {"xa|za", false}, {"x|x", true}, {"x|xa", false},
		// A scalar and a collection.
		{"s|[", false}, {"s|{", false},
	} {
		checkEqual(t, x.graph, made(x.graph), 0, 1, x.want)
		checkEqual(t, x.graph, made(x.graph), 0, 0, true)
		checkEqual(t, x.graph, made(x.graph), 1, 1, true)
		// As Kids, and as Kids of Kids.
		g := made(x.graph + "|[0|[1|[0 1|[1 0|{0 1|{1 0|[2|[3|[4 6|[5 7|[4 7")
		for _, at := range [][2]int{{2, 3}, {4, 5}, {6, 7}, {8, 9}, {10, 11}} {
			checkEqual(t, x.graph+" as Kids", g, at[0], at[1], x.want)
		}
		checkEqual(t, x.graph+" as Kids", g, 4, 6, false)
	}
}

// TestEqualTags: P2002: Tags count as they stand, of whichever Kind, Plain does not.
func TestEqualTags(t *testing.T) {
	tags := []string{"x", "y", "X", "xx", "!x", "!!str", y + "str", y + "seq", y + "map", y + "int", "%41", "A", strings.Repeat("t", 1000), strings.Repeat("t", 999) + "u"}
	for kind := api.NScalar; kind <= api.NMap; kind++ {
		for _, tag := range tags {
			for _, other := range tags {
				for _, turned := range []bool{false, true} {
					isPlain := kind == api.NScalar && turned
					g := api.Graph{Nodes: []api.Node{{Kind: kind, Tag: tag, Plain: isPlain}, {Kind: kind, Tag: other}}}
					checkEqual(t, tag+" and "+other, g, 0, 1, tag == other)
					g.Nodes = append(g.Nodes, api.Node{Kind: api.NSeq, Tag: "q", Kids: []int{0}}, api.Node{Kind: api.NSeq, Tag: "q", Kids: []int{1}})
					checkEqual(t, tag+" and "+other+" of Kids", g, 2, 3, tag == other)
				}
			}
		}
	}
}

// TestEqualKids: P2002: collections by their Kids.
func TestEqualKids(t *testing.T) {
	for _, x := range []struct {
		graph string
		a, b  int
		want  bool
	}{
		{"[|[", 0, 1, true}, {"{|{", 0, 1, true}, {"[|{", 0, 1, false}, {"[|[0", 0, 1, false}, {"{|{0 0", 0, 1, false}, {"{0 0|[0 0", 0, 1, false},
		{"[2|[2|sa", 0, 1, true}, {"[2|[3|sa|sa", 0, 1, true}, {"[2|[3|sa|sb", 0, 1, false}, {"[2|[2 2|sa", 0, 1, false}, {"[2 2|[2 3|sa|sa", 0, 1, true}, {"[2 2 2|[2 2|sa", 0, 1, false},
		{"[2|{2 2|sa", 0, 1, false}, {"[2 3|{2 3|sa|sb", 0, 1, false},
		// They differ at the first, in the middle, at the last place.
		{"[3 2 2|[2 2 2|sa|sb", 0, 1, false}, {"[2 3 2|[2 2 2|sa|sb", 0, 1, false}, {"[2 2 3|[2 2 2|sa|sb", 0, 1, false}, {"[2 3 3|[3 2 2|sa|sa", 0, 1, true},
		{"{3 2 2 2|{2 2 2 2|sa|sb", 0, 1, false}, {"{2 3 2 2|{2 2 2 2|sa|sb", 0, 1, false}, {"{2 2 3 2|{2 2 2 2|sa|sb", 0, 1, false}, {"{2 2 2 3|{2 2 2 2|sa|sb", 0, 1, false},
		// The same Kids in another order.
		{"[2 3|[3 2|sa|sb", 0, 1, false}, {"{2 3|{3 2|sa|sb", 0, 1, false}, {"{2 3 4 5|{4 5 2 3|sa|sb|sc|sd", 0, 1, false}, {"{2 3 4 5|{2 3 4 5|sa|sb|sc|sd", 0, 1, true}, {"[2 3|[3 2|sa|sa", 0, 1, true},
		// Kids of Kids: one and the same, two with the same in them, and others.
		{"[2 2|[2 3|[4|[4|sa", 0, 1, true}, {"[2 2|[2 3|[4|[5|sa|sa", 0, 1, true}, {"[2 2|[2 3|[4|[5|sa|sb", 0, 1, false}, {"[2|[3|[|{", 0, 1, false}, {"[2|[3|[|[2", 0, 1, false}, {"{2 3|{3 2|{4 4|{5 5|i1|i0x1", 0, 1, true},
		{"[2|[3|[4|[5|[6|[7|sa|sa", 0, 1, true}, {"[2|[3|[4|[5|[6|[7|sa|sb", 0, 1, false}, {"[2|[3|[4|[5|[6|[7|sa|sb", 4, 5, false}, {"[2|[3|[4|[5|[6|[7|sa|sb", 0, 3, false},
		{"[1 2|[3|[4|s|s", 1, 2, true}, {"[1 2|[3|[4|s|s", 0, 1, false}, {"[1|sa", 0, 1, false}, {"[1|[", 0, 1, false}, {"[1|[2|[", 0, 1, false},
		// What stands around them does not count.
		{"sa|sa|[0|{0 1", 0, 1, true}, {"[0 1|sa|sa", 1, 2, true},
	} {
		checkEqual(t, x.graph, made(x.graph), x.a, x.b, x.want)
	}
}

// TestEqualRounds: P2002: nodes that go round.
func TestEqualRounds(t *testing.T) {
	for _, x := range []struct {
		graph string
		a, b  int
		want  bool
	}{
		// Through themselves, through one another.
		{"[0|[1", 0, 1, true}, {"[0|[0", 0, 1, true}, {"[1|[0", 0, 1, true}, {"[1|[1", 0, 1, true}, {"{0 0|{1 1", 0, 1, true}, {"{0 1|{1 0", 0, 1, true}, {"[0|{1 1", 0, 1, false}, {"[0|[", 0, 1, false}, {"[0|[2|[", 0, 1, false},
		{"[0 0|[1", 0, 1, false}, {"[0 0|[1 1", 0, 1, true}, {"[0 1|[1 0", 0, 1, true}, {"[0 2|[1 3|sa|sa", 0, 1, true}, {"[0 2|[1 3|sa|sb", 0, 1, false}, {"[0 2|[2 1|sa", 0, 1, false}, {"[2 0|[3 1|sa|sb", 0, 1, false},
		// Rounds of one length and of another.
		{"[0|[2|[1", 0, 1, true}, {"[0|[2|[1", 1, 2, true}, {"[0|[2|[3|[1", 0, 3, true}, {"[1|[0|[3|[4|[2", 0, 2, true}, {"[1 5|[0 5|[3 5|[4 5|[2 5|sa", 1, 4, true}, {"[0|[0|[1|[2", 0, 3, true}, {"[0|[2|[3|[", 0, 1, false},
		// Rounds with something else at one place.
		{"[1 4|[0 5|[3 4|[2 5|sa|sb", 0, 2, true}, {"[1 4|[0 5|[3 4|[2 5|sa|sb", 0, 1, false}, {"[1 4|[0 5|[3 4|[2 5|sa|sb", 0, 3, false}, {"[1 4|[0 5|[3 4|[2 5|sa|sb", 1, 3, true}, {"[1 4|[0 5|[3 4|[2 4|sa|sb", 0, 2, false}, {"[1 4|[0 5|[3 4|[2 4|sa|sa", 0, 2, true},
		{"[1 9|[2 9|[0 8|[4 9|[5 9|[6 8|[7 9|[3 9|sa|sb", 0, 3, false}, {"[1 9|[2 9|[0 8|[4 9|[5 9|[6 8|[7 9|[3 9|sa|sb", 1, 4, false}, {"[1 8|[2 8|[0 7|[4 8|[5 8|[3 7|[3 8|sa|sb", 0, 3, true}, {"[1 8|[2 8|[0 7|[4 8|[5 8|[3 7|[3 8|sa|sb", 2, 6, false},
		// One that leads to a round, and one that is part of it.
		{"[1|[1", 0, 1, true}, {"[1 2|[1 2|sa", 0, 1, true}, {"[1 2|[1 3|sa|sb", 0, 1, false}, {"[1|[2|[2", 0, 2, true}, {"[1|[2|[3 3|[3 3", 0, 2, false}, {"[1|[2|[3 3|[3 3", 2, 3, true},
		// A round through a key and one through a value.
		{"{0 2|{2 1|sa", 0, 1, false}, {"{0 2|{1 2|sa", 0, 1, true}, {"{2 0|{3 1|i1|i01", 0, 1, true}, {"{2 0|{3 1|i1|i02", 0, 1, false},
	} {
		checkEqual(t, x.graph, made(x.graph), x.a, x.b, x.want)
	}
}

// TestEqualNone: P2002: a place that is no node, and a graph that is not Right.
func TestEqualNone(t *testing.T) {
	for _, s := range []string{"", "sa", "[0", "sa|sa", "[1|[0", "{1 1|i1|i1"} {
		g := made(s)
		for _, wrong := range []int{math.MinInt, math.MinInt32, -len(g.Nodes), -2, -1, len(g.Nodes), len(g.Nodes) + 1, math.MaxInt32, math.MaxInt} {
			if len(g.Nodes) > 0 && wrong == 0 {
				continue
			}
			checkEqual(t, s, g, wrong, wrong, false)
			checkEqual(t, s, g, 0, wrong, false)
			checkEqual(t, s, g, wrong, len(g.Nodes)-1, false)
		}
		for node := range g.Nodes {
			checkEqual(t, s, g, node, node, true)
		}
	}
	for what, g := range wrongs() {
		for a := range 2 {
			checkEqual(t, what, g, a, a, false)
			checkEqual(t, what, g, 0, a, false)
			checkEqual(t, what, g, len(g.Nodes)-1, a, false)
		}
		checkTwice(t, what, g, -1)
	}
}

// wrongs are graphs that are not Right, each with two nodes that are Equal and a mapping of which they are keys at its beginning.
func wrongs() map[string]api.Graph {
	turn := func(f func(*api.Graph)) api.Graph {
		g := made("sa|sa|{0 0 1 0|[|sb")
		f(&g)
		return g
	}
	long := strings.Repeat("a", api.MaxText)
	list := map[string]api.Graph{
		"right, but for the roots":   turn(func(g *api.Graph) { g.Roots = []int{5} }),
		"a root below 0":             turn(func(g *api.Graph) { g.Roots = []int{0, -1} }),
		"too many roots":             turn(func(g *api.Graph) { g.Roots = make([]int, api.MaxNodes+1) }),
		"too many nodes":             turn(func(g *api.Graph) { g.Nodes = slices.Concat(g.Nodes, slices.Repeat(g.Nodes[:1], api.MaxNodes-4)) }),
		"too many Kids":              turn(func(g *api.Graph) { g.Nodes[3].Kids = make([]int, api.MaxNodes-3) }),
		"a Kid that is none":         turn(func(g *api.Graph) { g.Nodes[3].Kids = []int{5} }),
		"a Kid below 0":              turn(func(g *api.Graph) { g.Nodes[3].Kids = []int{-1} }),
		"a scalar with Kids":         turn(func(g *api.Graph) { g.Nodes[4].Kids = []int{0} }),
		"a sequence with a Text":     turn(func(g *api.Graph) { g.Nodes[3].Text = "a" }),
		"a plain sequence":           turn(func(g *api.Graph) { g.Nodes[3].Plain = true }),
		"a mapping of three":         turn(func(g *api.Graph) { g.Nodes[2].Kids = []int{0, 0, 1} }),
		"a Text that is no UTF-8":    turn(func(g *api.Graph) { g.Nodes[4].Text = "\xff" }),
		"Texts that are no UTF-8":    turn(func(g *api.Graph) { g.Nodes[0].Text, g.Nodes[1].Text = "\xc3", "\xc3" }),
		"a Text that is too long":    turn(func(g *api.Graph) { g.Nodes[4].Text = long + "a" }),
		"a Tag that is none":         turn(func(g *api.Graph) { g.Nodes[4].Tag = "" }),
		"the Tag !":                  turn(func(g *api.Graph) { g.Nodes[4].Tag = "!" }),
		"a Tag with a blank":         turn(func(g *api.Graph) { g.Nodes[4].Tag = "a b" }),
		"a Tag that is too long":     turn(func(g *api.Graph) { g.Nodes[4].Tag = long[:1001] }),
		"no kind":                    turn(func(g *api.Graph) { g.Nodes[4].Kind = 0 }),
		"another kind":               turn(func(g *api.Graph) { g.Nodes[4].Kind = 4 }),
		"nodes of no kind that look": turn(func(g *api.Graph) { g.Nodes[0].Kind, g.Nodes[1].Kind = 7, 7 }),
	}
	return list
}

// TestWrongsElse: what makes the graphs of wrongs wrong is one thing alone: without it there are Equal nodes and a mapping.
func TestWrongsElse(t *testing.T) {
	g := made("sa|sa|{0 0 1 0|[|sb")
	checkEqual(t, "right", g, 0, 1, true)
	checkTwice(t, "right", g, 2)
}

// TestTwiceMappings: P2002: the first mapping of which two keys are Equal.
func TestTwiceMappings(t *testing.T) {
	for s, want := range map[string]int{
		// No mapping, none with keys, with one.
		"": -1, "sa": -1, "[": -1, "[1 1|sa": -1, "[1 2 1 2|sa|sb": -1, "{": -1, "{1 1|sa": -1, "{1 2|sa|sa": -1, "{0 0": -1,
		// Two keys: the same place, another place, next to each other, the first and the last.
		"{1 1 1 1|sa": 0, "{1 3 2 3|sa|sa|sb": 0, "{1 3 2 3|sa|sb|sb": -1, "{1 4 2 4 3 4|sa|sa|sb|sc": 0, "{1 4 2 4 3 4|sa|sb|sb|sc": 0, "{1 4 2 4 3 4|sa|sb|sa|sc": 0, "{1 4 2 4 3 4|sa|sb|sc|sc": -1, "{1 4 2 4 3 4|sa|sa|sa|sc": 0,
		"{1 2 3 4 5 6 7 8 1 9|sa|sb|sc|sd|se|sf|sg|sh|si": 0, "{1 2 3 4 5 6 7 8 9 1|sa|sb|sc|sd|se|sf|sg|sh|si": -1,
		// Keys that are values of one number, and such that are not.
		"{1 0 2 0|i1|i0x1": 0, "{1 0 2 0|i1|s1": -1, "{1 0 2 0|i1|f1": -1, "{1 0 2 0|f1|f1.0": 0, "{1 0 2 0|f0|f-0": -1, "{1 0 2 0|f.nan|f.NaN": 0, "{1 0 2 0|n|n~": 0, "{1 0 2 0|btrue|bTrue": 0, "{1 0 2 0|btrue|bfalse": -1, "{1 0 2 0|ix|ix": 0, "{1 0 2 0|ix|iX": -1, "{1 0 2 0|x1|x01": -1, "{1 0 2 0|s|s": 0, "{1 0 2 0|s|n": -1,
		// Keys that are collections, and that go round.
		"{1 0 2 0|[|[": 0, "{1 0 2 0|[|{": -1, "{1 0 2 0|{|{": 0, "{1 0 2 0|[3|[4|sa|sa": 0, "{1 0 2 0|[3|[4|sa|sb": -1, "{1 0 2 0|[1|[2": 0, "{1 0 2 0|[2|[1": 0, "{1 0 2 0|[1 1|[2": -1, "{1 0 2 0|[3|[2|[1": 0, "{0 1 0 1|sa": 0, "{0 1 1 0|sa": -1, "{0 0 0 0": 0, "{0 0 1 0|{0 0 1 0": 0, "{0 0 1 0|{0 0 2 0|{0 0 2 0": 0, "{0 0 1 0|{1 1": -1,
		// Values that are Equal where the keys are not.
		"{1 3 2 3|sa|sb|sc": -1, "{1 1 2 1|sa|sb": -1, "{1 2 3 4|sa|sx|sb|sx": -1,
		// More than one such mapping, and none of it comes to the first.
		"{1 1 1 1|sa|{1 1 1 1": 0, "{1 1|sa|{1 1 1 1|{1 1 1 1": 2, "[1 3|{2 2|sa|{2 2 2 2": 3, "[2|{3 3 3 3|{3 3 3 3|sa": 1, "sa|{0 0|{0 0|{0 0 0 0": 3,
		// Two mappings with one key each that are Equal.
		"[1 2|{3 3|{3 3|sa": -1, "{1 1|sa|{1 1": -1,
		// A mapping that is a key, with keys of its own.
		"{1 2|{2 2 2 2|sa": 1, "{1 2 3 2|{2 2|sa|{2 2": 0, "{1 2 3 2|{2 2 2 2|sa|{2 2 2 2": 0, "{1 2 3 2|{2 2|sa|{2 4|sb": -1, "sa|{2 0 3 0|{0 0|{0 0": 1, "{1 0|{2 0|{3 0|{4 4 4 4|sa": 3,
	} {
		checkTwice(t, s, made(s), want)
		// Roots, and whether they come to it, do not count.
		for root := range made(s).Nodes {
			g := made(s)
			g.Roots = []int{root}
			checkTwice(t, s, g, want)
		}
		// Behind other nodes, the first is found where it is then.
		g := made("sa|{0 0")
		for _, x := range made(s).Nodes {
			for at := range x.Kids {
				x.Kids[at] += 2
			}
			g.Nodes = append(g.Nodes, x)
		}
		if want >= 0 {
			want += 2
		}
		checkTwice(t, s+" behind others", g, want)
	}
}
