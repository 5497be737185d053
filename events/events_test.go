package events

import (
	"math"
	"regexp"
	"slices"
	"strings"
	"testing"

	"marginalia/api"
)

// kindSigns are the signs by which the tests write rows of events: the sign at k is that of kind k, and ? that of a kind that is none.
const kindSigns = "?+-[]{}a*"

// row is the row of events that is written so.
func row(s string) []api.Event {
	l := make([]api.Event, len(s))
	for at := range l {
		l[at] = simple(strings.IndexByte(kindSigns, s[at]))
	}
	return l
}

// simple is an event of that kind with what it must have.
func simple(kind int) api.Event {
	x := api.Event{Kind: kind}
	switch kind {
	case api.EScalar:
		x.Style = api.SPlain
	case api.EAlias:
		x.Anchor = "n"
	}
	return x
}

// signsOf is how a row is written.
func signsOf(l []api.Event) string {
	var b strings.Builder
	for _, x := range l {
		sign := byte('?')
		if x.Kind > 0 && x.Kind < len(kindSigns) {
			sign = kindSigns[x.Kind]
		}
		b.WriteByte(sign)
	}
	return b.String()
}

func checkRight(t *testing.T, l []api.Event, want bool) {
	if Right(l) != want {
		t.Helper()
		t.Errorf("P1201: Right of %s %v: %v", signsOf(l), l, !want)
	}
}

func checkDepth(t *testing.T, l []api.Event, want int) {
	if got := Depth(l); got != want {
		t.Helper()
		t.Errorf("P1202: Depth of %s %v: %d, not %d", signsOf(l), l, got, want)
	}
}

func checkNodes(t *testing.T, l []api.Event, want int) {
	if got := Nodes(l); got != want {
		t.Helper()
		t.Errorf("P1202: Nodes of %s %v: %d, not %d", signsOf(l), l, got, want)
	}
}

func checkEnd(t *testing.T, l []api.Event, i, want int) {
	if got := End(l, i); got != want {
		t.Helper()
		t.Errorf("P1202: End of %s at %d: %d, not %d", signsOf(l), i, got, want)
	}
}

// TestRight: P1201: rows of documents.
func TestRight(t *testing.T) {
	for _, s := range []string{
		"", "+a-", "+*-", "+[]-", "+{}-", "+a-+a-", "+a-+*-+[]-+{}-", "+*-+*-+*-",
		"+[a]-", "+[*]-", "+[[]]-", "+[{}]-", "+[aaa]-", "+[a*[]{}]-", "+[[][][]]-", "+[[[[]]]]-",
		"+{aa}-", "+{**}-", "+{a*}-", "+{a[]}-", "+{[]a}-", "+{{}{}}-", "+{aaaa}-", "+{aaaaaa}-", "+{*[]{}a}-", "+{[a]{aa}}-", "+{a{a{a{}}}}-", "+{{{{}a}a}a}-",
		"+[{aa}{a[a]}]-", "+{[aa][aaa]}-", "+{{aa}{a[]}}-+[a]-+a-",
	} {
		checkRight(t, row(s), true)
	}
}

// TestWrongRows: P1201: what is no row of documents.
func TestWrongRows(t *testing.T) {
	for _, s := range []string{
		"+", "-", "+-", "++", "--", "-+", "+-+-", "+a-+-", "+-+a-", "+aa-", "+a*-", "+[]a-", "+a[]-", "+[][]-", "+{}{}-", "+**-", "+a-+aa-",
		"+a", "+[]", "+{aa}", "+a-+a", "+a+a-", "+a+a--", "+a--", "+a-+", "+a--+a-", "a-", "a", "*", "[]", "{}", "[a]-", "-+a-", "+a--a",
		"++a--", "++a-", "+[+a-]-", "+{+a-a}-", "+{a+a-}-", "+[a+-]-", "+[+]-", "+[-]-", "+{-}-", "+{a-a}-", "+[a-", "+{aa-", "+{a-",
		"a+a-", "*+a-", "[]+a-", "{}+a-", "+a-a", "+a-*", "+a-[]", "+a-{}", "+a-a+a-", "+a-[]+a-",
		"+{a}-", "+{*}-", "+{[]}-", "+{{}}-", "+{aaa}-", "+{aa[]}-", "+{a{a}}-", "+{a[a]a}-", "+[{a}]-", "+{{a}a}-", "+{[{aaa}]a}-",
		"+[}-", "+{]-", "+[a}-", "+{aa]-", "+[aa}-", "+{[}a]-", "+[{]}-", "+[{aa]}-", "+{a[}]-", "+[[]}-", "+{a{}]-",
		"+]-", "+}-", "+a]-", "+a}-", "+[]]-", "+{}}-", "+[a]]-", "]", "}", "]+a-", "}+a-", "+a-]", "+a-}", "][", "}{", "+][-", "+}{-",
		"+[-", "+{-", "+[", "+{", "+[a", "+{aa", "+[[]-", "+{a{}-", "+[[a]-", "[", "{", "+a-[", "+a-{", "+a-+[", "[+a-", "{+a-",
		"?", "+?-", "?+a-", "+a-?", "+?a-", "+a?-", "+[?]-", "+[a?]-", "+{?a}-", "+{a?}-", "+{aa?}-", "+a-?+a-",
	} {
		checkRight(t, row(s), false)
		checkDepth(t, row(s), 0)
	}
}

// TestKinds: P1201: kinds that are none stand nowhere, and in nobody's place.
func TestKinds(t *testing.T) {
	kinds := []int{math.MinInt, math.MinInt + 1, math.MinInt32, math.MaxInt32, math.MaxInt - 1, math.MaxInt}
	for k := -300; k < 600; k++ {
		kinds = append(kinds, k, k+1<<16, k+1<<32, k-1<<32, k+1<<62)
	}
	for _, kind := range kinds {
		if kind >= api.EDoc && kind <= api.EAlias {
			continue
		}
		for _, s := range []string{"+a-", "+[a]-", "+{aa}-", "+*-+{[]a}-"} {
			l := row(s)
			for at := range l {
				other := slices.Clone(l)
				other[at].Kind = kind
				checkRight(t, other, false)
				bare := slices.Clone(l)
				bare[at] = api.Event{Kind: kind}
				checkRight(t, bare, false)
				checkDepth(t, bare, 0)
				checkEnd(t, bare, at, at)
				more := slices.Insert(slices.Clone(l), at, api.Event{Kind: kind})
				checkRight(t, more, false)
				checkNodes(t, more, Nodes(l))
			}
			checkRight(t, append(l, api.Event{Kind: kind}), false)
		}
		checkRight(t, []api.Event{{Kind: kind}}, false)
		checkNodes(t, []api.Event{{Kind: kind}}, 0)
		checkEnd(t, []api.Event{{Kind: kind}}, 0, 0)
	}
}

// styles are numbers that are styles of scalars, and such that are none.
func styles() []int {
	list := []int{math.MinInt, math.MinInt + 1, -1 << 32, -256, -6, -5, -2, -1, 0, 6, 7, 8, 255, math.MaxInt32, math.MaxInt}
	for style := api.SPlain; style <= api.SFolded; style++ {
		list = append(list, style, style+256, style+1<<16, style+1<<32, style-1<<32, style+1<<62, math.MinInt+style)
	}
	return list
}

// held is a row in which events of each kind stand at each place where they may.
const held = "+[a[a]*[]{a[][]a**{aa}{}}{}]-+[]-+{}-+a-+*-"

// eachHeld does it with each place of held at which an event of that kind stands, and with that row.
func eachHeld(kind int, do func(l []api.Event, at int)) {
	for at := range held {
		if held[at] == kindSigns[kind] {
			do(row(held), at)
		}
	}
}

// named tells which fields a kind names: x its Text, t its Tag, a its Anchor, s its Style, f its Flag.
func named(kind int) string {
	switch kind {
	case api.EDoc, api.EDone:
		return "f"
	case api.ESeq, api.EMap:
		return "taf"
	case api.EScalar:
		return "xtas"
	case api.EAlias:
		return "a"
	}
	return ""
}

// isClean tells by the lists of named whether an event may stand so.
func isClean(x api.Event) bool {
	other := func(field string, isZero bool) bool { return !isZero && !strings.Contains(named(x.Kind), field) }
	if other("x", x.Text == "") || other("t", x.Tag == "") || other("a", x.Anchor == "") || other("s", x.Style == 0) || other("f", !x.Flag) {
		return false
	}
	return (x.Kind != api.EScalar || slices.Contains([]int{1, 2, 3, 4, 5}, x.Style)) && (x.Kind != api.EAlias || x.Anchor != "")
}

// eachForm does it with events of that kind with each field zero and not, in all ways.
func eachForm(kind int, do func(x api.Event)) {
	texts := []string{"", "x", "\x00", "a b\n\xff"}
	for _, text := range texts {
		for _, tag := range texts {
			for _, anchor := range texts {
				for _, style := range styles() {
					do(api.Event{Kind: kind, Text: text, Tag: tag, Anchor: anchor, Style: style})
					do(api.Event{Kind: kind, Text: text, Tag: tag, Anchor: anchor, Style: style, Flag: true})
				}
			}
		}
	}
}

// TestFields: P1201: each kind with each field, zero and not, at each place where that kind may stand.
func TestFields(t *testing.T) {
	checkRight(t, row(held), true)
	for kind := api.EDoc; kind <= api.EAlias; kind++ {
		eachHeld(kind, func(l []api.Event, at int) {
			deep := Depth(l)
			eachForm(kind, func(x api.Event) {
				l[at] = x
				checkRight(t, l, isClean(x))
				if isClean(x) {
					checkDepth(t, l, deep)
				} else {
					checkDepth(t, l, 0)
				}
			})
		})
	}
}

// TestEachField: P1201: for each kind the fields alone, one by one, as the document lists them.
func TestEachField(t *testing.T) {
	want := map[int][5]bool{ // Text, Tag, Anchor, Style, Flag
		api.EDoc: {4: true}, api.EDone: {4: true},
		api.ESeq: {1: true, 2: true, 4: true}, api.EMap: {1: true, 2: true, 4: true},
		api.ESeqEnd: {}, api.EMapEnd: {},
		api.EScalar: {0: true, 1: true, 2: true, 3: true},
		api.EAlias:  {2: true},
	}
	for kind, may := range want {
		for field, right := range may {
			eachHeld(kind, func(l []api.Event, at int) {
				x := &l[at]
				switch field {
				case 0:
					x.Text = "v"
				case 1:
					x.Tag = "v"
				case 2:
					x.Anchor = "v"
				case 3:
					x.Style = api.SDouble
				case 4:
					x.Flag = true
				}
				checkRight(t, l, right)
			})
		}
	}
}

// TestStyles: P1201: Styles of scalars are 1 to 5.
func TestStyles(t *testing.T) {
	for _, style := range styles() {
		right := style == 1 || style == 2 || style == 3 || style == 4 || style == 5
		for _, s := range []string{"+a-", "+[a]-", "+{aa}-", "+*-+a-"} {
			l := row(s)
			l[strings.LastIndex(s, "a")].Style = style
			checkRight(t, l, right)
		}
	}
}

// TestAliases: P1201: an alias has an Anchor; that it is anybody's is not asked.
func TestAliases(t *testing.T) {
	for _, s := range []string{"+*-", "+[*]-", "+{a*}-", "+{*a}-", "+a-+*-"} {
		l := row(s)
		at := strings.Index(s, "*")
		for _, anchor := range []string{"n", " ", "\n", "\x00", "\xff", strings.Repeat("n", 1000)} {
			l[at].Anchor = anchor
			checkRight(t, l, true)
		}
		l[at].Anchor = ""
		checkRight(t, l, false)
	}
}

// TestLast: P1201: a fault in the last event or the first one is seen, however much is right beside it.
func TestLast(t *testing.T) {
	l := row(strings.Repeat("+{a[a*]}-", 1000))
	checkRight(t, l, true)
	for _, at := range []int{0, 1, 2, 3, 8, 9, 4500, len(l) - 9, len(l) - 2, len(l) - 1} {
		other := slices.Clone(l)
		other[at].Style = 9
		checkRight(t, other, false)
		checkDepth(t, other, 0)
		checkRight(t, slices.Delete(slices.Clone(l), at, at+1), false)
	}
	checkRight(t, l[:len(l)-1], false)
	checkRight(t, l[1:], false)
}

// TestDepth: P1202: collections in each other.
func TestDepth(t *testing.T) {
	for s, want := range map[string]int{
		"": 0, "+a-": 0, "+*-": 0, "+a-+a-+*-": 0,
		"+[]-": 1, "+{}-": 1, "+[a]-": 1, "+[aaa]-": 1, "+{aa}-": 1, "+{aa**}-": 1,
		"+[[]]-": 2, "+[[][]]-": 2, "+[[][][]]-": 2, "+[{}{}]-": 2, "+{[]a}-": 2, "+{a[]}-": 2, "+{{}{}}-": 2, "+{[][][]a}-": 2, "+[[a]a[a]]-": 2,
		"+[[[]]]-": 3, "+[[][[]][]]-": 3, "+{a{a{}}}-": 3, "+{{{}a}a}-": 3, "+{[a[]]{}}-": 3, "+{{}[a[]]}-": 3, "+[{a[]}]-": 3, "+[{[]a}]-": 3, "+[a[a[a]]]-": 3, "+[[[a]a]a]-": 3,
		"+[[[[[[[[[[]]]]]]]]]]-": 10, "+{{{{{{}a}a}a}a}a}-": 6, "+{a{a{a{a{a{}}}}}}-": 6,
		"+a-+[]-": 1, "+[]-+a-": 1, "+[]-+[]-+{}-": 1, "+[]-+[[]]-+[]-": 2, "+[[[]]]-+a-+[[]]-": 3, "+a-+[[]]-+{a[[]]}-": 3, "+{{a[]}*}-+[]-": 3,
	} {
		l := row(s)
		checkDepth(t, l, want)
		for _, wrong := range []string{s + "+", s + "-", s + "a", s + "+-", "a" + s, "-" + s, s + "[", s + "]", s + "?", s + "+[[[[}-", s + "+{[[[]]]}-"} {
			checkDepth(t, row(wrong), 0)
		}
		for at := range l {
			other := slices.Clone(l)
			other[at].Style = -1
			checkDepth(t, other, 0)
		}
	}
}

// TestNodes: P1202: each kind alone, rows that are Right, and such that are not.
func TestNodes(t *testing.T) {
	for s, want := range map[string]int{
		"": 0, "+": 0, "-": 0, "[": 1, "]": 0, "{": 1, "}": 0, "a": 1, "*": 0, "?": 0,
		"+a-": 1, "+*-": 0, "+[]-": 1, "+{}-": 1, "+[aaa]-": 4, "+{aa}-": 3, "+[*a*]-": 2, "+a-+a-+[a]-": 4, "+{[a]{**}}-": 4,
		"+-": 0, "aaa": 3, "[[[": 3, "{{{": 3, "]]]": 0, "}}}": 0, "***": 0, "???": 0, "a?a": 2, "+[}-": 1, "+{a}-": 2, "a[": 2, "-a+": 1, "]a[": 2, "a+": 1,
	} {
		checkNodes(t, row(s), want)
	}
	for kind := api.EDoc; kind <= api.EAlias; kind++ {
		one := 0
		if kind == api.EScalar || kind == api.ESeq || kind == api.EMap {
			one = 1
		}
		eachForm(kind, func(x api.Event) {
			checkNodes(t, []api.Event{x}, one)
			checkNodes(t, append(row("+[a"), x, x), 2+2*one)
		})
	}
}

// TestEnd: P1202: each place of a row, as a list of ends.
func TestEnd(t *testing.T) {
	for s, want := range map[string][]int{
		"a": {1}, "*": {1}, "[]": {2, 1}, "{}": {2, 1}, "+": {0}, "-": {0}, "[": {0}, "]": {0}, "{": {0}, "}": {0}, "?": {0},
		"+a-":           {0, 2, 2},
		"+a-+*-":        {0, 2, 2, 3, 5, 5},
		"+[a*]-":        {0, 5, 3, 4, 4, 5},
		"+{aa}-":        {0, 5, 3, 4, 4, 5},
		"+[[][a]]-":     {0, 8, 4, 3, 7, 6, 6, 7, 8},
		"+{a{[]a}}-":    {0, 9, 3, 8, 6, 5, 7, 7, 8, 9},
		"aa":            {1, 2},
		"[]a":           {2, 1, 3},
		"[][]":          {2, 1, 4, 3},
		"{aaaa}":        {6, 2, 3, 4, 5, 5},
		"{a}":           {0, 2, 2},
		"{aaa}":         {0, 2, 3, 4, 4},
		"{[]}":          {0, 3, 2, 3},
		"[{a}]":         {0, 1, 3, 3, 4},
		"{{a}a}":        {0, 1, 3, 3, 5, 5},
		"{a{a}}":        {0, 2, 2, 4, 4, 5},
		"[}":            {0, 1},
		"{]":            {0, 1},
		"[a}":           {0, 2, 2},
		"{aa]":          {0, 2, 3, 3},
		"[}]":           {0, 1, 2},
		"{]}":           {0, 1, 2},
		"[[}]":          {0, 1, 2, 3},
		"[{]}":          {0, 1, 2, 3},
		"[[]":           {0, 3, 2},
		"[[]]]":         {4, 3, 2, 3, 4},
		"[a":            {0, 2},
		"{aa":           {0, 2, 3},
		"{a[]":          {0, 2, 4, 3},
		"[aa[a":         {0, 2, 3, 3, 5},
		"[+a-]":         {0, 1, 3, 3, 4},
		"[+]":           {0, 1, 2},
		"[-]":           {0, 1, 2},
		"[a-]":          {0, 2, 2, 3},
		"{a+}":          {0, 2, 2, 3},
		"{-a}":          {0, 1, 3, 3},
		"[?]":           {0, 1, 2},
		"[a?]":          {0, 2, 2, 3},
		"{?a}":          {0, 1, 3, 3},
		"[]-":           {2, 1, 2},
		"[]?":           {2, 1, 2},
		"{}+":           {2, 1, 2},
		"]a":            {0, 2},
		"}[a]":          {0, 4, 3, 3},
		"++[a]":         {0, 1, 5, 4, 4},
		"+a-[a{a}]{*a}": {0, 2, 2, 3, 5, 5, 7, 7, 8, 13, 11, 12, 12},
	} {
		l := row(s)
		if len(l) != len(want) {
			t.Fatalf("%s: %d ends", s, len(want))
		}
		for i := range l {
			checkEnd(t, l, i, want[i])
		}
	}
}

// TestEndBeyond: P1202: where no event stands no node begins.
func TestEndBeyond(t *testing.T) {
	for _, s := range []string{"", "a", "*", "[]", "+a-", "+[a{aa}]-", "[a", "-"} {
		l := row(s)
		for _, i := range []int{-1, -2, -len(l), -len(l) - 1, len(l), len(l) + 1, 2*len(l) + 1, 99, 1 << 32, 1<<32 + 1, -1 << 32, math.MinInt, math.MinInt + 1, math.MaxInt, math.MaxInt - 1} {
			if i < 0 || i >= len(l) {
				checkEnd(t, l, i, i)
				checkEnd(t, append(slices.Clone(l), row("a[]")...)[:len(l)], i, i)
			}
		}
	}
}

// TestEndOfKinds: P1202: where a node ends hangs on the kinds of the events alone.
func TestEndOfKinds(t *testing.T) {
	for kind := api.EDoc; kind <= api.EAlias; kind++ {
		for _, s := range []string{"+[a{a[]}]-", "+{[*]a}-", "+a-+*-", "{a}[a"} {
			want := ends(row(s))
			at := strings.IndexByte(s, kindSigns[kind])
			if at < 0 {
				continue
			}
			eachForm(kind, func(x api.Event) {
				l := row(s)
				l[at] = x
				if got := ends(l); !slices.Equal(got, want) {
					t.Errorf("P1202: End at each place of %s with %v at %d: %v, not %v", s, x, at, got, want)
				}
			})
		}
	}
}

// ends are what End tells of each place.
func ends(l []api.Event) []int {
	var out []int
	for i := range l {
		out = append(out, End(l, i))
	}
	return out
}

// A way of its own to P1201 and P1202: innermost collections become scalars, one after the other.
var (
	innermost = regexp.MustCompile(`\[a*\]|\{(?:aa)*\}`)
	documents = regexp.MustCompile(`\A(?:\+a-)*\z`)
)

// melted is what stays of a row when each whole node in it has become one scalar.
func melted(s string) string {
	s = strings.ReplaceAll(s, "*", "a")
	for {
		next := innermost.ReplaceAllString(s, "a")
		if next == s {
			return s
		}
		s = next
	}
}

// deepest is how many collections stand in each other at most, of a row that is right.
func deepest(s string) int {
	most, deep := 0, 0
	for _, c := range s {
		switch c {
		case '[', '{':
			deep++
		case ']', '}':
			deep--
		}
		most = max(most, deep)
	}
	return most
}

// eachRow does it with each row of at most that many of these signs.
func eachRow(signs string, most int, do func(s string)) {
	do("")
	last := []string{""}
	for range most {
		var next []string
		for _, s := range last {
			for _, c := range signs {
				next = append(next, s+string(c))
				do(next[len(next)-1])
			}
		}
		last = next
	}
}

// checkRow holds Right, Depth and Nodes against the other way.
func checkRow(t *testing.T, s string) {
	l := row(s)
	right := documents.MatchString(melted(s))
	checkRight(t, l, right)
	if right {
		checkDepth(t, l, deepest(s))
	} else {
		checkDepth(t, l, 0)
	}
	checkNodes(t, l, strings.Count(s, "a")+strings.Count(s, "[")+strings.Count(s, "{"))
}

// TestAllRows: P1201, P1202: every short row held against the other way.
func TestAllRows(t *testing.T) {
	eachRow("+-a[]{}", 6, func(s string) { checkRow(t, s) })
	eachRow("+-*[]{}a?", 4, func(s string) { checkRow(t, s) })
	eachRow("a[]{}", 7, func(s string) { checkRow(t, "+"+s+"-") })
	eachRow("a[]{}", 5, func(s string) { checkRow(t, "+a-+{"+s+"}-") })
}

// TestAllEnds: P1202: each place of every short row: a node ends where what stands up to there melts into one scalar, and nowhere else.
func TestAllEnds(t *testing.T) {
	nodes := map[string]int{}
	isNode := func(s string) bool {
		known := nodes[s]
		if known == 0 {
			known = 1
			if melted(s) == "a" {
				known = 2
			}
			nodes[s] = known
		}
		return known == 2
	}
	check := func(s string) {
		l := row(s)
		for i := range l {
			want := i
			for j := i + 1; j <= len(s); j++ {
				if isNode(s[i:j]) {
					want = j
					break
				}
			}
			checkEnd(t, l, i, want)
		}
	}
	eachRow("a[]{}", 7, check)
	eachRow("+-a*[]{}?", 5, check)
}

// TestDeep: P1201, P1202: no row is too deep, whatever its collections are and wherever in them the next one stands.
func TestDeep(t *testing.T) {
	const deep = 1 << 17
	for _, x := range []struct{ begin, end string }{{"[", "]"}, {"[a", "]"}, {"[", "a]"}, {"{a", "}"}, {"{", "a}"}, {"{aa*", "}"}, {"[{", "a}]"}, {"{a[a", "*]aa}"}} {
		opens := strings.Count(x.begin, "[") + strings.Count(x.begin, "{")
		s := strings.Repeat(x.begin, deep) + "a" + strings.Repeat(x.end, deep)
		l := row("+" + s + "-")
		last := len(l) - 1
		if !Right(l) || Depth(l) != deep*opens || Nodes(l) != len(s)-strings.Count(s, "*")-deep*opens {
			t.Errorf("P1201, P1202: %q deep: %v, %d, %d", x, Right(l), Depth(l), Nodes(l))
		}
		middle := 1 + len(x.begin)*deep
		if End(l, 1) != last || End(l, middle) != middle+1 || End(l, middle-len(x.begin)) != middle+1+len(x.end) || End(l[:last-1], 1) != 1 || End(l, 0) != 0 {
			t.Errorf("P1202: %q deep: End %d, %d, %d", x, End(l, 1), End(l, middle), End(l, middle-len(x.begin)))
		}
		for _, wrong := range [][]api.Event{l[1:], l[:last], slices.Delete(slices.Clone(l), last-1, last), slices.Delete(slices.Clone(l), 1, 2), l[:middle], l[middle:]} {
			if Right(wrong) || Depth(wrong) != 0 {
				t.Errorf("P1201, P1202: %q deep, with a fault: %v, %d", x, Right(wrong), Depth(wrong))
			}
		}
		l[last-1] = api.Event{Kind: api.ESeqEnd + api.EMapEnd - l[last-1].Kind}
		if Right(l) || Depth(l) != 0 || End(l, 1) != 1 || End(l, middle) != middle+1 {
			t.Errorf("P1201, P1202: %q deep, with a wrong end: %v, %d, %d", x, Right(l), Depth(l), End(l, 1))
		}
	}
}

// TestLong: P1201, P1202: no row is too long.
func TestLong(t *testing.T) {
	const many = 1 << 17
	for s, want := range map[string]int{strings.Repeat("+a-", many): 0, "+[" + strings.Repeat("[]", many) + "]-": 2, "+{" + strings.Repeat("a*", many) + "}-": 1, strings.Repeat("+{[]{}}-", many): 2} {
		l := row(s)
		if !Right(l) || Depth(l) != want || Nodes(l) != strings.Count(s, "a")+strings.Count(s, "[")+strings.Count(s, "{") {
			t.Errorf("P1201, P1202: many of %s: %v, %d, %d", s[:8], Right(l), Depth(l), Nodes(l))
		}
		if Right(append(l, api.Event{})) || Right(l[:len(l)-1]) || Right(l[1:]) {
			t.Errorf("P1201: many of %s, with a fault", s[:8])
		}
	}
	l := row("[" + strings.Repeat("a[]", many) + "]")
	if got := End(l, 0); got != len(l) {
		t.Errorf("P1202: End of many: %d, not %d", got, len(l))
	}
}

// rows are rows of each kind, on which the promises of memory are tried.
func rows() [][]api.Event {
	var out [][]api.Event
	for _, s := range []string{"+a-", "+*-", "+[a{a[]}*]-", "+{[a]{**}aa}-+[]-", "+{a}-", "+[}-", "a", "[a]{}", "[[", "]]", "+a-+", "?a?", "+aa-"} {
		out = append(out, row(s))
	}
	full := row("+{a[a]}-")
	for at := range full {
		x := &full[at]
		switch x.Kind {
		case api.EScalar:
			*x = api.Event{Kind: x.Kind, Text: "text", Tag: "tag", Anchor: "anchor", Style: api.SFolded}
		case api.ESeq, api.EMap:
			*x = api.Event{Kind: x.Kind, Tag: "tag", Anchor: "anchor", Flag: true}
		case api.EDoc, api.EDone:
			x.Flag = true
		}
	}
	dirty := slices.Clone(full)
	for at := range dirty {
		dirty[at].Text, dirty[at].Style, dirty[at].Flag = "more", -at, true
	}
	return append(out, full, dirty)
}

// told is what the package's calls tell of one row.
type told struct {
	right        bool
	depth, nodes int
	ends         string
}

// tell asks all four calls, End at each place and at both sides of the row.
func tell(l []api.Event) told {
	var b strings.Builder
	for i := -1; i <= len(l); i++ {
		b.WriteRune(rune(End(l, i) + 'A'))
	}
	return told{Right(l), Depth(l), Nodes(l), b.String()}
}

// TestNilAndEmpty: P1203: nil and an empty row mean the same.
func TestNilAndEmpty(t *testing.T) {
	for _, none := range [][]api.Event{nil, {}, make([]api.Event, 0, 5), row("+a-")[3:], row("+a-")[:0], row("a")[:0], row("[]")[2:], row("-")[:0]} {
		if got, want := tell(none), (told{true, 0, 0, "@A"}); got != want {
			t.Errorf("P1201 to P1203: of nothing: %v, not %v", got, want)
		}
		for _, i := range []int{-7, -1, 0, 1, 7, math.MinInt, math.MaxInt} {
			checkEnd(t, none, i, i)
		}
	}
}

// TestTwice: P1203: the same call tells the same, whatever was called between, and in whatever order.
func TestTwice(t *testing.T) {
	for _, l := range rows() {
		first := tell(l)
		for _, x := range rows() {
			tell(x)
			other := slices.Clone(l)
			nodes, depth, right := Nodes(other), Depth(l), Right(other)
			if right != first.right || depth != first.depth || nodes != first.nodes || tell(other) != first {
				t.Errorf("P1203: %s: %v, then %v, %d, %d", signsOf(l), first, right, depth, nodes)
			}
		}
	}
}

// TestBeside: P1203: many ask at the same time, and each is told the same as one alone.
func TestBeside(t *testing.T) {
	var want []told
	for _, l := range rows() {
		want = append(want, tell(l))
	}
	shared := rows()
	done := make(chan []told)
	for range 8 {
		go func() {
			var got []told
			for _, l := range shared {
				got = append(got, tell(l))
			}
			done <- got
		}()
	}
	for range 8 {
		if got := <-done; !slices.Equal(got, want) {
			t.Errorf("P1203: side by side: %v, not %v", got, want)
		}
	}
}

// TestUnchanged: P1203: what is handed in stays as it is, the room around it too, and that room is not looked at.
func TestUnchanged(t *testing.T) {
	for _, l := range rows() {
		want := tell(l)
		for kind := range len(kindSigns) {
			x := simple(kind)
			y := api.Event{Kind: kind, Text: "y", Tag: "y", Anchor: "y", Style: 9, Flag: true}
			room := append(append([]api.Event{y, x}, l...), x, y, x)
			before := slices.Clone(room)
			if got := tell(room[2 : 2+len(l)]); got != want {
				t.Errorf("P1203: %s within more of %d: %v, not %v", signsOf(l), kind, got, want)
			}
			if !slices.Equal(room, before) {
				t.Fatalf("P1203: %s within more of %d was changed: %v", signsOf(l), kind, room)
			}
		}
	}
}

// TestNotKept: P1203: what is told is of what stands in the row then, not of what stood there once.
func TestNotKept(t *testing.T) {
	for _, l := range rows() {
		l = slices.Clone(l)
		before := slices.Clone(l)
		first := tell(l)
		for at := range l {
			l[at] = api.Event{Kind: api.EAlias}
		}
		if Right(l) || Depth(l) != 0 || Nodes(l) != 0 || End(l, 0) != 1 {
			t.Errorf("P1203: %s as aliases alone: %v", signsOf(before), tell(l))
		}
		copy(l, before)
		if again := tell(l); again != first {
			t.Errorf("P1203: %s: %v, then %v", signsOf(before), first, again)
		}
	}
}

// TestLeft: a loop over events with their depths may be left at each of them, and the same iterator may be ranged over again.
func TestLeft(t *testing.T) {
	l := row("+{a[*]}-+a-")
	depths := []int{0, 1, 1, 2, 2, 1, 0, 0, 0, 0, 0}
	all := deepening(l, outside)
	for stop := range len(l) + 1 {
		var events []api.Event
		var got []int
		for event, deep := range all {
			events, got = append(events, event), append(got, deep)
			if len(got) > stop {
				break
			}
		}
		size := min(stop+1, len(l))
		if !slices.Equal(events, l[:size]) || !slices.Equal(got, depths[:size]) {
			t.Errorf("up to %d: %s with %v, not %s with %v", stop, signsOf(events), got, signsOf(l[:size]), depths[:size])
		}
	}
	count := 0
	for range deepening(row("+[a}]-"), outside) {
		count++
	}
	if count != 3 {
		t.Errorf("%d events ahead of the one that may not stand there, not 3", count)
	}
}
