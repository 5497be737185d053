package props

import (
	"math"
	"regexp"
	"slices"
	"strconv"
	"strings"
	"testing"
	"unicode/utf8"
)

// points tells the code points of s.
func points(s string) []int {
	var l []int
	for _, c := range s {
		l = append(l, int(c))
	}
	return l
}

// taken is what Anchor and Tag tell.
type taken struct {
	text string
	size int
	ok   bool
}

// said is what Directive tells.
type said struct {
	name, first, second string
	ok                  bool
}

func anchorOf(l []int) taken {
	text, size, ok := Anchor(l)
	return taken{text, size, ok}
}

func tagOf(l []int) taken {
	text, size, ok := Tag(l)
	return taken{text, size, ok}
}

func directiveOf(l []int) said {
	name, first, second, ok := Directive(l)
	return said{name, first, second, ok}
}

func (x taken) String() string {
	return strconv.Quote(x.text) + ", " + strconv.Itoa(x.size) + ", " + strconv.FormatBool(x.ok)
}

func (x said) String() string {
	return strconv.Quote(x.name) + ", " + strconv.Quote(x.first) + ", " + strconv.Quote(x.second) + ", " + strconv.FormatBool(x.ok)
}

// whole is a text told as it stands; of the empty one nothing is told.
func whole(s string) taken {
	return taken{s, utf8.RuneCountInString(s), s != ""}
}

func checkAnchor(t *testing.T, l []int, want taken) {
	if got := anchorOf(l); got != want {
		t.Helper()
		t.Errorf("P1101: Anchor of %v: %v, not %v", l, got, want)
	}
}

func checkTag(t *testing.T, l []int, want taken) {
	if got := tagOf(l); got != want {
		t.Helper()
		t.Errorf("P1102: Tag of %v: %v, not %v", l, got, want)
	}
}

func checkDirective(t *testing.T, l []int, want said) {
	if got := directiveOf(l); got != want {
		t.Helper()
		t.Errorf("P1103: Directive of %v: %v, not %v", l, got, want)
	}
}

func checkValid(t *testing.T, s string, want bool) {
	if Valid(s) != want {
		t.Helper()
		t.Errorf("P1104: Valid of %q: %v", s, !want)
	}
}

// span is numbers from first to last.
type span struct{ first, last int }

// isName is chars.Name by a list of its own: what is printed, without blanks, ends of lines, the mark of bytes and the signs of flow.
func isName(c int) bool {
	for _, x := range [...]span{{33, 43}, {45, 90}, {92, 92}, {94, 122}, {124, 124}, {126, 126}, {133, 133}, {160, 55295}, {57344, 65278}, {65280, 65533}, {65536, 1114111}} {
		if x.first <= c && c <= x.last {
			return true
		}
	}
	return false
}

const (
	wordList  = "0123456789abcdefghijklmnopqrstuvwxyzABCDEFGHIJKLMNOPQRSTUVWXYZ-"
	otherList = "#;/?:@&=+$,_.!~*'()[]"
)

// edges are numbers at which kinds begin and end, and such that are like a sign in their last bits only.
func edges() []int {
	list := []int{0, 7, 8, 9, 10, 11, 12, 13, 14, 27, 31, 32, 33, 126, 127, 128, 132, 133, 134, 159, 160, 233, 8232, 55295, 55296, 56319, 56320, 57343, 57344, 65278, 65279, 65280, 65533, 65534, 65535, 65536, 128512, 1114110, 1114111, 1114112, -1, -2, 1 << 21, 1 << 31, math.MaxInt32, math.MinInt32, math.MaxInt, math.MaxInt - 1, math.MinInt, math.MinInt + 1}
	for c := range 128 {
		list = append(list, c, -c, c+256, c-256, c+1<<16, c+1<<32, c-1<<32, c+1<<62, math.MinInt+c)
	}
	return list
}

// eachNumber does it with each number from below the code points to beyond them, and with the edges.
func eachNumber(do func(c int)) {
	for c := -300; c < 1114412; c++ {
		do(c)
	}
	for _, c := range edges() {
		do(c)
	}
}

// TestAnchor: P1101: nothing, a first one that is no Name, and Names with each kind behind them.
func TestAnchor(t *testing.T) {
	for s, want := range map[string]string{
		"": "", " ": "", "\t": "", " a": "", "\ta": "", ",": "", "[": "", "]": "", "{": "", "}": "", ",a": "", "\n": "", "\ra": "", "\ufeff": "", "\ufeffa": "", "\x00a": "", "\x07": "", "\x7fa": "", "\u0080a": "", "\ufffea": "",
		"a": "a", "abc": "abc", "a b": "a", "abc def": "abc", "a\tb": "a", "a ": "a", "a,b": "a", "a[": "a", "a]": "a", "a{b": "a", "a}": "a", "a\n": "a", "a\rb": "a", "a\ufeffb": "a", "a\x00b": "a", "a\x1b": "a", "a\x7f": "a", "a\u009f": "a", "a\uffff": "a",
		"-": "-", "?": "?", ":": ":", "a:": "a:", "a: b": "a:", "#": "#", "#a": "#a", "a#b": "a#b", "&a": "&a", "*a b": "*a", "!": "!", "|>": "|>", "'a'": "'a'", "\"a\" ": "\"a\"", "%@`": "%@`", "\\": "\\", "~": "~", "---": "---", "<<": "<<",
		"\u00a0": "\u00a0", "\u0085a": "\u0085a", "\ufffd": "\ufffd", "\ufffd,": "\ufffd", "\u3000 ": "\u3000",
		"é": "é", "aé b": "aé", "€]": "€", "😀": "😀", "aé€😀": "aé€😀", "😀€éa\tb": "😀€éa", "\U0010ffff": "\U0010ffff", "\ud7ff\ue000": "\ud7ff\ue000", "\u007e\u00a0\u07ff\u0800\uffef\U00010000 ": "\u007e\u00a0\u07ff\u0800\uffef\U00010000",
	} {
		checkAnchor(t, points(s), whole(want))
	}
}

// TestAnchorEach: P1101: each number first, within, and at the end.
func TestAnchorEach(t *testing.T) {
	eachNumber(func(c int) {
		if isName(c) {
			s := string(rune(c))
			checkAnchor(t, []int{c}, taken{s, 1, true})
			checkAnchor(t, []int{c, ' '}, taken{s, 1, true})
			checkAnchor(t, []int{'a', c, 'b', 9, 'c'}, taken{"a" + s + "b", 3, true})
			return
		}
		checkAnchor(t, []int{c}, taken{})
		checkAnchor(t, []int{c, 'a'}, taken{})
		checkAnchor(t, []int{'a', c}, taken{"a", 1, true})
		checkAnchor(t, []int{'a', 'é', c, 'b'}, taken{"aé", 2, true})
	})
}

// TestTag: P1102: nothing, a first one that is no !, handles, what stands behind them, and %.
func TestTag(t *testing.T) {
	for s, want := range map[string]string{
		"": "", "a": "", "a!": "", " !": "", "<": "", "<a>": "", "<!a>": "", "%21": "", "\ufeff!": "", "!": "!",
		"! ": "!", "!\t": "!", "! a": "!", "! !": "!", "! <a>": "!", "!,": "!", "![": "!", "!]": "!", "!{": "!", "!}": "!", "![a]": "!", "!>": "!", "!\"": "!", "!\\": "!", "!^": "!", "!`": "!", "!|": "!", "!é": "!", "!\n": "!", "!\ufeff": "!",
		"!a": "!a", "!a ": "!a", "!ab-c9Z": "!ab-c9Z", "!-": "!-", "!9": "!9", "!a/b": "!a/b", "!a<b": "!a", "!a>": "!a", "!aé": "!a", "!a,b": "!a", "!a[": "!a", "!a]b": "!a", "!a{": "!a", "!a}": "!a", "!_": "!_", "!.": "!.", "!a.b:c": "!a.b:c", "!#": "!#", "!a#b": "!a#b", "!'()*~": "!'()*~",
		"!!": "", "!! ": "", "!!!": "", "!!!a": "", "!!,": "", "!![": "", "!!<a>": "", "!!é": "", "!!%": "", "!!%4": "", "!!%g1": "", "!!>": "",
		"!!a": "!!a", "!!str": "!!str", "!!str x": "!!str", "!!a,b": "!!a", "!!a]": "!!a", "!!a!b": "!!a", "!!a!": "!!a", "!!.": "!!.", "!!%41": "!!%41", "!!-": "!!-", "!!/a": "!!/a",
		"!e!": "", "!e! ": "", "!e!!": "", "!e!!a": "", "!e!,": "", "!e!]": "", "!e!{": "", "!e!é": "", "!e!%": "", "!e!%4g": "", "!e!<": "", "!e-1!": "", "!-!": "",
		"!e!x": "!e!x", "!e!x y": "!e!x", "!e!x!y": "!e!x", "!e!x!": "!e!x", "!e!x,y": "!e!x", "!a-Z9!b": "!a-Z9!b", "!-!x": "!-!x", "!e!%7E": "!e!%7E", "!e!.": "!e!.", "!e!:#": "!e!:#",
		"!e.!x": "!e.", "!.e!x": "!.e", "!e_f!x": "!e_f", "!%41!x": "!%41", "!e%41!": "!e%41", "!e !x": "!e", "!é!x": "!", "!e,!x": "!e", "!#!": "!#",
		"!%41": "!%41", "!%aF": "!%aF", "!%Fa": "!%Fa", "!%00%ff": "!%00%ff", "!%": "!", "!%4": "!", "!%g4": "!", "!%4g": "!", "!%4 1": "!", "!%%41": "!", "!% 41": "!", "!%41%": "!%41", "!%41%4": "!%41", "!%41%4g": "!%41", "!%412": "!%412", "!a%41b": "!a%41b", "!a%4": "!a", "!a%": "!a", "!a%zz": "!a", "!%4é": "!", "!%é4": "!",
	} {
		checkTag(t, points(s), whole(want))
	}
}

// angles is what Tag tells of text between angles.
func angles(text string) taken {
	return taken{"<" + text, 3 + len(text), true}
}

// TestAngles: P1102: !< with nothing, with > at once, without a >, with what is no URI sign, and with more behind the >.
func TestAngles(t *testing.T) {
	for _, s := range []string{"a", "!", "!!", "!a!b", "tag:yaml.org,2002:str", "[]", ",", "[a,b]", "%41", "%fF%Ff", "a%00b", "#", "-", "_", "x:y?z#w", otherList, wordList, wordList + otherList} {
		for _, behind := range []string{"", " ", " b", ">", ">>", "b", "!", ",", "]", "\t", "<", "é", "\n", "%", "%41"} {
			checkTag(t, points("!<"+s+">"+behind), angles(s))
		}
		checkTag(t, points("!<"+s), taken{})
		for _, wrong := range []string{" ", "\t", "<", "{", "}", "\"", "\\", "^", "`", "|", "é", "😀", "\n", "\ufeff", "\x00", "%.", "%4.", "%g1", "%1g", "% 1", "%%41"} {
			checkTag(t, points("!<"+wrong+s+">"), taken{})
			checkTag(t, points("!<"+s+wrong+s+">"), taken{})
			checkTag(t, points("!<"+s+wrong+">"), taken{})
			checkTag(t, points("!<"+s+wrong), taken{})
		}
		for _, cut := range []string{"%", "%4"} {
			checkTag(t, points("!<"+s+cut+">"), taken{})
			checkTag(t, points("!<"+s+cut), taken{})
		}
	}
	for _, s := range []string{"!<", "!<>", "!<>a", "!<>>", "!<> a>", "!<a", "!< ", "!< a>", "!<<a>", "!<<", "!<{a}>", "!<é>", "!<%>", "!<%4>", "!<%41", "!<a >"} {
		checkTag(t, points(s), taken{})
	}
	checkTag(t, points("! <a>"), taken{"!", 1, true})
	checkTag(t, points("!a<b>"), taken{"!a", 2, true})
}

// Patterns that say P1102 to P1104 by another way.
const (
	uriPattern    = `(?:[-0-9A-Za-z#;/?:@&=+$,_.!~*'()\[\]]|%[0-9A-Fa-f]{2})`
	suffixPattern = `(?:[-0-9A-Za-z#;/?:@&=+$_.~*'()]|%[0-9A-Fa-f]{2})`
	handlePattern = `![-0-9A-Za-z]*!`
	closePattern  = `(?:[ \t]+(?:#.*)?)?\z`
	namePattern   = `[!-+\--Z\\^-z|~\x{85}\x{a0}-\x{d7ff}\x{e000}-\x{fefe}\x{ff00}-\x{fffd}\x{10000}-\x{10ffff}]+`
)

var (
	angleTags  = regexp.MustCompile(`\A!(<` + uriPattern + `+)>`)
	handleTags = regexp.MustCompile(`\A` + handlePattern + suffixPattern + `+`)
	shortTags  = regexp.MustCompile(`\A!` + suffixPattern + `*`)
	handles    = regexp.MustCompile(`\A` + handlePattern)
	valids     = regexp.MustCompile(`\A` + uriPattern + `+\z`)
	yamls      = regexp.MustCompile(`(?s)\A%YAML[ \t]+([0-9]+)\.([0-9]+)` + closePattern)
	prefixes   = regexp.MustCompile(`(?s)\A%TAG[ \t]+(!|!!|![-0-9A-Za-z]+!)[ \t]+(` + uriPattern + `+)` + closePattern)
	others     = regexp.MustCompile(`(?s)\A%(` + namePattern + `)(?:[ \t].*)?\z`)
)

// tagByPattern: what Tag must tell of s.
func tagByPattern(s string) taken {
	switch {
	case strings.HasPrefix(s, "!<"):
		m := angleTags.FindStringSubmatch(s)
		if m == nil {
			return taken{}
		}
		return taken{m[1], len(m[0]), true}
	case handles.MatchString(s):
		return whole(handleTags.FindString(s))
	}
	return whole(shortTags.FindString(s))
}

// directiveByPattern: what Directive must tell of s.
func directiveByPattern(s string) said {
	if m := yamls.FindStringSubmatch(s); m != nil {
		return said{"YAML", m[1], m[2], true}
	}
	if m := prefixes.FindStringSubmatch(s); m != nil {
		return said{"TAG", m[1], m[2], true}
	}
	m := others.FindStringSubmatch(s)
	if m == nil || m[1] == "YAML" || m[1] == "TAG" {
		return said{}
	}
	return said{m[1], "", "", true}
}

// eachRow does it with the text s and at most size of the pieces behind it, in every order.
func eachRow(s string, pieces []string, size int, do func(s string)) {
	do(s)
	if size == 0 {
		return
	}
	for _, piece := range pieces {
		eachRow(s+piece, pieces, size-1, do)
	}
}

// TestAllTags: P1102: every short line of the signs that matter, held against the patterns.
func TestAllTags(t *testing.T) {
	check := func(s string) { checkTag(t, points(s), tagByPattern(s)) }
	eachRow("", []string{"!", "<", ">", "a", ".", "%", "4", " ", ","}, 6, check)
	eachRow("!", []string{"!", "e", "-", "%", "F", "g", "1", "]", "{", "é", "\t"}, 5, check)
	eachRow("!<", []string{">", "!", "a", "%", "F", "1", "[", "}", "<", " "}, 5, check)
	eachRow("!", append(strings.Split(wordList+otherList, ""), "<", ">", "%", " ", "{", "}", "\"", "é"), 2, check)
	eachRow("!e!", append(strings.Split(wordList+otherList, ""), "<", ">", "%", " ", "{", "}", "\"", "é"), 2, check)
}

// TestYAML: P1103: %YAML alone, with blanks, digits, a point, and what may stand behind them.
func TestYAML(t *testing.T) {
	numbers := []string{"0", "1", "2", "9", "12", "00", "007", "1234567890", "98765432109876543210987654321"}
	for _, major := range numbers {
		for _, minor := range numbers {
			for _, blanks := range []string{" ", "\t", "  ", " \t ", "\t\t"} {
				for _, behind := range []string{"", " ", "\t", " \t  ", " #", "\t#", "  # a", " #a", " ##", " # é 😀", " #\n\r", " #\x00", " #,[%"} {
					checkDirective(t, points("%YAML"+blanks+major+"."+minor+behind), said{"YAML", major, minor, true})
				}
			}
		}
	}
	for _, s := range []string{
		"%YAML", "%YAML ", "%YAML\t \t", "%YAML 1", "%YAML 12 ", "%YAML 1.", "%YAML 1. ", "%YAML .", "%YAML .2", "%YAML . 2", "%YAML 1 .2", "%YAML 1. 2", "%YAML 1 2", "%YAML 1 . 2", "%YAML 1..2", "%YAML 1.2.3", "%YAML 1.2.", "%YAML ..", "%YAML .1.2", "%YAML 1,2", "%YAML 1:2",
		"%YAML 1.2#", "%YAML 1.2#a", "%YAML 1.2 x", "%YAML 1.2 x #", "%YAML 1.2\tx", "%YAML 1.2 1.2", "%YAML 1.2 .", "%YAML 1.2,", "%YAML 1.2a", "%YAML a1.2", "%YAML 1a.2", "%YAML 1.a2", "%YAML a.b", "%YAML -1.2", "%YAML +1.2", "%YAML 1.-2", "%YAML 1e.2", "%YAML 0x1.2", "%YAML 1.2\n", "%YAML 1.2\r", "%YAML 1.2 \n", "%YAML 1.2\n#", "%YAML 1.2\ufeff", "%YAML \ufeff1.2", "%YAML 1.2\u00a0#", "%YAML\ufeff 1.2", "%YAML ١.٢", "%YAML １.２",
		"%YAML #", "%YAML # 1.2", "%YAML #1.2", "%YAML 1 #.2", "%YAML 1.#2", "%YAML 1. #2", "%YAML,1.2", "%YAML\n1.2", "%YAML\x00 1.2",
	} {
		checkDirective(t, points(s), said{})
	}
}

// TestPrefix: P1103: %TAG alone, each handle, what is no handle, prefixes, and what may stand behind them.
func TestPrefix(t *testing.T) {
	list := []string{"a", "!", "!!", "!a!", "tag:yaml.org,2002:", "[", "]", ",", "[,]", "%41", "%fF%Ff", "a%00b", "#", "#a", "##", "a#b", "-", "_", "%2521", otherList, wordList, wordList + otherList}
	for _, s := range wordList + otherList {
		list = append(list, string(s))
	}
	for _, handle := range []string{"!", "!!", "!e!", "!e-1!", "!-!", "!0!", "!YAML!", "!" + wordList + "!"} {
		for _, prefix := range list {
			for _, blanks := range []string{" ", "\t", " \t "} {
				for _, behind := range []string{"", " ", "\t\t ", " #", "\t#a", "  # a b", " ##", " #é\n\x00"} {
					checkDirective(t, points("%TAG"+blanks+handle+blanks+prefix+behind), said{"TAG", handle, prefix, true})
				}
				for _, behind := range []string{" x", "\tx #", " !", "{", "}", "é", "<", ">", "\"", "%", "%4", "%g1", "%1g", " %41", "\n", " \n", "\ufeff", "\x00", " \x00#", "\u00a0#"} {
					checkDirective(t, points("%TAG"+blanks+handle+blanks+prefix+behind), said{})
				}
			}
		}
		for _, wrong := range []string{"", " ", "\t ", " {a}", " é", " <a>", " %", " %4", " %4g", " \"", " \\", " ^", " `", " |", "\n", " \n", " {", " a é", " # a", " #\ta", " #{", " \ufeff", "\ufeff a", "\u00a0a", ", a", ",a"} {
			checkDirective(t, points("%TAG "+handle+wrong), said{})
		}
	}
	for _, handle := range []string{"e", "!e", "e!", "!!!", "!e!!", "!!e!", "!e!f", "!!e", "!e!e!", "!.!", "!e.!", "!_!", "!é!", "!%41!", "!,!", "![!", "!<!", "!#!", "#", "#!", "<!>", "%21", "!e!.", "%", ".", "-", "1.2", "!\n!", "\ufeff!", "\n!"} {
		for _, rest := range []string{"", " ", " a", "\ta", " a #", " !", "  tag:x,1:"} {
			checkDirective(t, points("%TAG "+handle+rest), said{})
		}
	}
	for _, s := range []string{"%TAG", "%TAG ", "%TAG\t", "%TAG a", "%TAG !", "%TAG ! ", "%TAG !a", "%TAG !e!a", "%TAG !!a", "%TAG #", "%TAG # ! a", "%TAG,", "%TAG, ! a", "%TAG\n! a", "%TAG\ufeff ! a", "%TAG ! a b", "%TAG ! ! a", "%TAG ! a b # c"} {
		checkDirective(t, points(s), said{})
	}
}

// TestOtherNames: P1103: names that begin as YAML and TAG do and go on, others, and what stands behind them.
func TestOtherNames(t *testing.T) {
	for _, name := range []string{"A", "FOO", "foo", "é", "€", "😀", "aé€😀", "YAMLX", "YAML1.2", "YAML.", "YAML#", "YAML%", "YAML!", "YAM", "Y", "XYAML", "yaml", "Yaml", "YAMl", "YAMLYAML", "TAGS", "TAG!", "TAG!!", "TAG#", "TAGTAG", "TA", "T", "tag", "Tag", "XTAG", "%", "%%", "%YAML", "%TAG", "#", "#a", "!", "-", "a:b", "'", "\"", "\\", "`", "|", "&a", "*", "1", "1.2", ".", "\u00a0", "\u0085", "\u00e9YAML", "---", "YAML\u00a01.2", "TAG\u00a0!"} {
		for _, behind := range []string{"", " ", "\t", "  ", " a", "\ta b", " # a", " #", " 1.2", " ! a", " ,[]{}", " é😀", " \n", "\t\r", " \ufeff", " \x00", " %", "\t\t#"} {
			checkDirective(t, points("%"+name+behind), said{name, "", "", true})
		}
		for _, behind := range []string{",", "[", "]", "{", "}", ", ", ",a", "[ a", "\n", "\n a", "\r", "\ufeff", "\ufeff a", "\x00", "\x07 ", "\x7f", "\u0080", "\u009f ", "\uffff"} {
			checkDirective(t, points("%"+name+behind), said{})
		}
	}
	for _, s := range []string{"", " ", "a", "YAML", "YAML 1.2", "YAML% 1.2", " %YAML 1.2", "\t%FOO", " %", "!", "#", "#%A", "\ufeff%YAML 1.2", "\n%A", "%", "% ", "%\t", "% YAML 1.2", "%\tTAG ! a", "% A", "%,", "%,A", "%[", "%\n", "%\nA", "%\ufeffA", "%\x00", "%A,b", "%A{b"} {
		checkDirective(t, points(s), said{})
	}
}

// filled answers the code points of s, with c in the place of each |.
func filled(s string, c int) []int {
	l := points(s)
	for at := range l {
		if l[at] == '|' {
			l[at] = c
		}
	}
	return l
}

// textOf answers l as a text for the patterns: 7 stands for a number that is no code point, since both are of no kind at all.
func textOf(l []int) string {
	var b strings.Builder
	for _, c := range l {
		if c != int(rune(c)) || !utf8.ValidRune(rune(c)) {
			c = 7
		}
		b.WriteRune(rune(c))
	}
	return b.String()
}

// TestHoles: P1102, P1103: numbers of each kind, and such that are no code points, at each place of tags and directives, held against the patterns.
func TestHoles(t *testing.T) {
	list := edges()
	for c := range 700 {
		list = append(list, c)
	}
	for _, s := range []string{"|", "|a", "!|", "! |", "!| ", "!a|", "!a|b", "!!|", "!!|b", "!!a|b", "!|!", "!|!x", "!e|f!x", "!e!|", "!e!||", "!e!x|", "!e!x|y", "!<|", "!<|>", "!<|a>", "!<a|b>", "!<a|", "!<a>|", "!|a>", "!%|1", "!%e|", "!%||", "!a%|1|", "!%|", "!|41", "!<%|1>", "!<%e|>", "!!%|1", "!e!%e|"} {
		for _, c := range list {
			l := filled(s, c)
			checkTag(t, l, tagByPattern(textOf(l)))
		}
	}
	for _, s := range []string{"|", "|A", "|YAML 1.2", "%|", "%|A", "%A|", "%A|b", "%A|b c", "%A |", "%A |,", "%A ,|", "%YAML|", "%YAML|1.2", "%YAML| 1.2", "%YAML |1.2", "%YAML |.2", "%YAML 1|.2", "%YAML 1|2", "%YAML 1.|2", "%YAML 1.|", "%YAML 1.2|", "%YAML 1.2|#", "%YAML 1.2| #", "%YAML 1.2 |", "%YAML 1.2 |#", "%YAML 1.2 #|", "%YAML 1.2 # |a", "%|AML 1.2", "%YAM| 1.2", "%TAG|", "%TAG|! a", "%TAG| ! a", "%TAG |! a", "%TAG | a", "%TAG !|a", "%TAG !| a", "%TAG !|! a", "%TAG !e|! a", "%TAG !e|f! a", "%TAG !e!|a", "%TAG !e!| a", "%TAG ! |", "%TAG ! |a", "%TAG ! a|", "%TAG ! a|b", "%TAG ! a|#", "%TAG ! a |", "%TAG ! a |#", "%TAG ! a #|", "%TAG ! %|1", "%TAG ! %e|", "%TAG ! %e|a", "%TA| ! a", "%|AG ! a"} {
		for _, c := range list {
			l := filled(s, c)
			checkDirective(t, l, directiveByPattern(textOf(l)))
		}
	}
}

// TestBeyond: P1102, P1103: no number beyond ASCII is a URI sign, a digit or a blank; as names they are what chars.Name tells.
func TestBeyond(t *testing.T) {
	tags, directives := map[string]taken{"!|": whole("!"), "!!|": {}, "!a|b": whole("!a"), "!a|!b": whole("!a"), "!%|1": whole("!"), "!%1|": whole("!"), "!<a|>": {}}, map[string]said{
		"|": {}, "|A": {}, "%YAML 1|2": {}, "%YAML 1.2|": {}, "%YAML 1.2 |": {}, "%TAG !|! a": {}, "%TAG !|a": {}, "%TAG ! a|": {}, "%TAG ! a |": {},
		"%YAML 1.2 #|": {"YAML", "1", "2", true}, "%TAG !e! a\t#|": {"TAG", "!e!", "a", true}, "%A |": {"A", "", "", true},
	}
	var beyond []int
	eachNumber(func(c int) {
		if c < 0 || c > 127 {
			beyond = append(beyond, c)
		}
	})
	for s, want := range tags {
		l, at := points(s), strings.Index(s, "|")
		for _, l[at] = range beyond {
			checkTag(t, l, want)
		}
	}
	for s, want := range directives {
		l, at := points(s), strings.Index(s, "|")
		for _, l[at] = range beyond {
			checkDirective(t, l, want)
		}
	}
	for _, c := range beyond {
		first, within := said{}, said{}
		if isName(c) {
			first, within = said{string(rune(c)), "", "", true}, said{"YAML" + string(rune(c)) + "1.2", "", "", true}
		}
		checkDirective(t, []int{'%', c}, first)
		checkDirective(t, []int{'%', 'Y', 'A', 'M', 'L', c, '1', '.', '2', 9, 'x'}, within)
	}
}

// TestAllDirectives: P1103: every short line of the pieces that matter, held against the patterns.
func TestAllDirectives(t *testing.T) {
	check := func(s string) { checkDirective(t, points(s), directiveByPattern(s)) }
	eachRow("", []string{"%", "YAML", "TAG", " ", "1", ".", "!", "#"}, 5, check)
	eachRow("%YAML", []string{" ", "\t", "0", "12", ".", "#", "a", ","}, 6, check)
	eachRow("%YAML 1.2", []string{" ", "\t", "3", ".", "#", "a", ",", "\n"}, 4, check)
	eachRow("%TAG", []string{" ", "\t", "!", "e", ".", "#", "%41", "{"}, 6, check)
	eachRow("%TAG !e! ", []string{" ", "!", "a", "%", "4", "#", "[", "}"}, 5, check)
	eachRow("%", []string{"Y", "TAG", "é", "%", "#", " ", ",", "\ufeff", "\n"}, 5, check)
}

// TestValid: P1104: nothing, each URI sign, %, and what is none, at each place.
func TestValid(t *testing.T) {
	checkValid(t, "", false)
	signs := append(strings.Split(wordList+otherList, ""), "%00", "%41", "%fF", "%Ff", "%9a")
	for _, s := range signs {
		for _, right := range []string{s, s + s, "a" + s, s + "a", "a" + s + "b", "%41" + s + "%42", s + "tag:x,2002:y"} {
			checkValid(t, right, true)
		}
		for _, wrong := range []string{" ", "\t", "\n", "\r", "\x00", "\x07", "\x7f", "<", ">", "{", "}", "\"", "\\", "^", "`", "|", "%", "%4", "%g1", "%1g", "%%41", "% 41", "%4é", "\u0080", "é", "߿", "€", "\ufeff", "\ufffd", "😀", "\U0010ffff", "\xff", "\x80", "\xc3", "\xe2\x82", "\xf0\x9f\x98", "\xed\xa0\x80", "\xc0\xa1", "\xf4\x90\x80\x80"} {
			checkValid(t, wrong, false)
			checkValid(t, s+wrong, false)
			checkValid(t, wrong+"."+s, false)
			checkValid(t, s+wrong+"."+s, false)
		}
	}
	for s, want := range map[string]bool{"%4g1": false, "%41%": false, "%41%4": false, "%41%42": true, "%411": true, "%": false, "%%": false, "%4%41": false, "!": true, "!!str": true, "!<a>": false, "<a": false, "tag:yaml.org,2002:str": true, "a b": false, " a": false, "a ": false, "http://a/b?c=d&e#f": true, "a\x00b": false, "[]": true, "{}": false} {
		checkValid(t, s, want)
	}
}

// TestValidEach: P1104: each byte and each code point, alone and among URI signs.
func TestValidEach(t *testing.T) {
	for c := range 256 {
		s := string([]byte{byte(c)})
		right := strings.Contains(wordList+otherList, s)
		for _, x := range []string{s, "a" + s, s + "a", "a" + s + "b", "%41" + s} {
			checkValid(t, x, right)
		}
		hex := strings.Contains("0123456789abcdefABCDEF", s)
		for _, x := range []string{"%" + s + "1", "%1" + s, "%" + s + s, "a%" + s + "1b"} {
			checkValid(t, x, hex)
		}
	}
	for c := rune(128); c <= utf8.MaxRune; c++ {
		s := string(c)
		if Valid(s) || Valid("a"+s+"b") || Valid("%4"+s) || Valid("a"+s) {
			t.Errorf("P1104: Valid with %d", c)
		}
	}
	check := func(s string) { checkValid(t, s, valids.MatchString(s)) }
	eachRow("", []string{"%", "4", "F", "g", "a", "!", " ", "é", "\xff"}, 6, check)
	eachRow("", []string{"%", "1", "%41", "[", "{", "<", ",", "\x00"}, 5, check)
}

// lists are lines of each kind, on which the promises of memory are tried.
func lists() [][]int {
	var out [][]int
	for _, s := range []string{
		"a", "a b", "abc,d", "é€😀 x", "-", " a", ",",
		"!", "! a", "!a", "!a/b c", "!!", "!!str x", "!e!x", "!e!x!y", "!e!", "!%41%4", "!<a>", "!<tag:x,1:y> z", "!<", "!<a", "!<>", "!a,b",
		"%YAML 1.2", "%YAML\t01.20  # c", "%YAML 1", "%YAML", "%TAG ! a", "%TAG !e! %41[] #", "%TAG !!  x:", "%TAG !", "%TAG !e x", "%FOO", "%é bar, #baz", "%A,", "%", "% A",
	} {
		out = append(out, points(s))
	}
	return append(out, []int{-1, 'a', math.MaxInt}, []int{'a', 55296, 32, 1114112}, []int{'!', 'a', -1}, []int{'%', 'A', 32, math.MinInt})
}

// told is what the package's calls tell of one line.
type told struct {
	anchor, tag taken
	directive   said
	valid       bool
}

// tell asks all four calls.
func tell(l []int) told {
	return told{anchorOf(l), tagOf(l), directiveOf(l), Valid(textOf(l))}
}

// TestNilAndEmpty: P1105: nil and an empty list mean the same.
func TestNilAndEmpty(t *testing.T) {
	for _, none := range [][]int{nil, {}, make([]int, 0, 5), points("abc")[3:], points("abc")[:0], points("!a")[:0], points("!!str")[5:], points("%YAML 1.2")[:0], points("%A")[2:]} {
		if got := tell(none); got != (told{}) {
			t.Errorf("P1105: of nothing: %v", got)
		}
	}
}

// TestTwice: P1105: the same call tells the same, whatever was called between, and in whatever order.
func TestTwice(t *testing.T) {
	for _, l := range lists() {
		first := tell(l)
		for _, x := range lists() {
			tell(x)
			directive, valid, tag, anchor := directiveOf(slices.Clone(l)), Valid(textOf(l)), tagOf(l), anchorOf(slices.Clone(l))
			if again := (told{anchor, tag, directive, valid}); again != first {
				t.Errorf("P1105: %v: %v, then %v", l, first, again)
			}
		}
	}
}

// TestBeside: P1105: many ask at the same time, and each is told the same as one alone.
func TestBeside(t *testing.T) {
	var want []told
	for _, l := range lists() {
		want = append(want, tell(l))
	}
	shared := lists()
	done := make(chan []told)
	for range 8 {
		go func() {
			var got []told
			for _, l := range shared {
				got = append(got, tell(l))
			}
			done <- got
		}()
	}
	for range 8 {
		if got := <-done; !slices.Equal(got, want) {
			t.Errorf("P1105: side by side: %v, not %v", got, want)
		}
	}
}

// TestUnchanged: P1105: what is handed in stays as it is, the room around it too, and that room is not looked at.
func TestUnchanged(t *testing.T) {
	for _, l := range lists() {
		want := tell(l)
		for _, c := range []int{'a', '!', '<', '>', '%', '1', '.', ' ', 9, '#', ',', 'é', -7} {
			room := append(append([]int{c, c}, l...), c, c, c)
			before := slices.Clone(room)
			if got := tell(room[2 : 2+len(l)]); got != want {
				t.Errorf("P1105: %v within more of %d: %v, not %v", l, c, got, want)
			}
			if !slices.Equal(room, before) {
				t.Fatalf("P1105: %v within more of %d was changed: %v", l, c, room)
			}
		}
	}
}

// TestNotKept: P1105: what was told stays when what was handed in is changed, and what is told then is of what stands there then.
func TestNotKept(t *testing.T) {
	for _, l := range lists() {
		l = slices.Clone(l)
		before := slices.Clone(l)
		got := tell(l)
		held := got
		for _, s := range []*string{&held.anchor.text, &held.tag.text, &held.directive.name, &held.directive.first, &held.directive.second} {
			*s = strings.Clone(*s)
		}
		for at := range l {
			l[at] = 'z'
		}
		if got != held {
			t.Errorf("P1105: %v: what was told has changed: %v, not %v", before, got, held)
		}
		size := len(l)
		if z := anchorOf(l); z != (taken{strings.Repeat("z", size), size, true}) || tagOf(l) != (taken{}) || directiveOf(l) != (said{}) {
			t.Errorf("P1105: %v as z alone: %v", before, tell(l))
		}
		copy(l, before)
		if again := tell(l); again != held {
			t.Errorf("P1105: %v: %v, then %v", before, held, again)
		}
	}
}

// TestMany: P1101 to P1104: nothing is too long.
func TestMany(t *testing.T) {
	const many = 1 << 18
	check := func(what string, ok bool) {
		t.Helper()
		if !ok {
			t.Errorf("P1101 to P1104: many: %s", what)
		}
	}
	names, signs, digits := strings.Repeat("é:", many), strings.Repeat("a%41", many), strings.Repeat("90", many)
	blanks, words := strings.Repeat(" \t", many), strings.Repeat("a-", many)
	check("names", anchorOf(points(names+" b")) == whole(names))
	check("a tag", tagOf(points("!"+signs+",")) == whole("!"+signs))
	check("a tag behind a handle", tagOf(points("!"+words+"!"+signs+"!")) == whole("!"+words+"!"+signs))
	check("a tag between angles", tagOf(points("!<"+signs+">")) == angles(signs))
	check("a tag between angles, cut", tagOf(points("!<"+signs)) == taken{})
	check("a version", directiveOf(points("%YAML"+blanks+digits+"."+digits+blanks+"#"+blanks)) == said{"YAML", digits, digits, true})
	check("a prefix", directiveOf(points("%TAG"+blanks+"!"+words+"!"+blanks+signs+blanks)) == said{"TAG", "!" + words + "!", signs, true})
	check("a remark of many parts", directiveOf(points("%TAG ! a #"+strings.Repeat(" a", many))) == said{"TAG", "!", "a", true})
	check("another name", directiveOf(points("%"+names+blanks+names)) == said{names, "", "", true})
	check("a right tag", Valid(signs))
	check("a wrong tag", !Valid(signs+"%4") && !Valid(signs+" "))
}

// TestLeft: a loop over signs or parts may be left at each of them, and the same iterator may be ranged over again.
func TestLeft(t *testing.T) {
	all := parts(points(" %TAG\t !  a #b c"))
	checkLeft(t, func(stop int) (got []string) {
		for part := range all {
			if got = append(got, textOf(part)); len(got) > stop {
				break
			}
		}
		return got
	}, "%TAG", "!", "a", "#b", "c")
	ofLine, ofTag := signs(points("a%41!%fF,%4")), signs([]byte("a%41!%fF,%4"))
	want := []string{"a", "%41", "!", "%fF", ","}
	checkLeft(t, func(stop int) (got []string) {
		for sign := range ofLine {
			if got = append(got, textOf(sign)); len(got) > stop {
				break
			}
		}
		return got
	}, want...)
	checkLeft(t, func(stop int) (got []string) {
		for sign := range ofTag {
			if got = append(got, string(sign)); len(got) > stop {
				break
			}
		}
		return got
	}, want...)
}

// checkLeft looks at what was told up to each place, and at all of it.
func checkLeft(t *testing.T, upTo func(stop int) []string, want ...string) {
	t.Helper()
	for stop := range want {
		if got := upTo(stop); !slices.Equal(got, want[:stop+1]) {
			t.Errorf("up to %d: %q, not %q", stop, got, want[:stop+1])
		}
	}
	if got := upTo(len(want)); !slices.Equal(got, want) {
		t.Errorf("all: %q, not %q", got, want)
	}
}
