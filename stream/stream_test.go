package stream

import (
	"slices"
	"strconv"
	"strings"
	"testing"

	"marginalia/api"
)

// points tells the code points of s.
func points(s string) []int {
	var l []int
	for _, c := range s {
		l = append(l, int(c))
	}
	return l
}

// all makes lines of s, parted at each 10: the blanks ahead count.
func all(s string) []api.Line {
	var l []api.Line
	for _, x := range strings.Split(s, "\n") {
		text := strings.TrimLeft(x, " ")
		l = append(l, api.Line{Indent: len(x) - len(text), Text: points(text)})
	}
	return l
}

// nameOf is an error's name.
func nameOf(e api.Errno) string {
	names := map[api.Errno]string{api.ErrArg: "ErrArg", api.ErrSyntax: "ErrSyntax", api.ErrChar: "ErrChar", api.ErrTab: "ErrTab", api.ErrIndent: "ErrIndent", api.ErrDeep: "ErrDeep", api.ErrTag: "ErrTag"}
	if name := names[e]; name != "" {
		return name
	}
	return "Err" + strconv.Itoa(int(e))
}

// show writes events: documents' ends as + - without Flag and = . with it, [ ] and { } with Flag, ( ) and < > without it, *name, scalars as :plain 'single "double |literal >folded with _ for a blank, / for a 10, ~ for a 9, and ahead of them &anchor and !tag.
func show(l []api.Event) string {
	var told, open []string
	for _, x := range l {
		if x.Anchor != "" && x.Kind != api.EAlias {
			told = append(told, "&"+x.Anchor)
		}
		if x.Tag != "" {
			told = append(told, "!"+x.Tag)
		}
		sign := signOf(x)
		if at := strings.Index("[{(<", sign); at >= 0 {
			open = append(open, "]})>"[at:at+1])
		}
		if sign == "end" && len(open) > 0 {
			sign = open[len(open)-1]
			open = open[:len(open)-1]
			if (x.Kind == api.ESeqEnd) != (sign == "]" || sign == ")") {
				sign = "?"
			}
		}
		told = append(told, sign)
	}
	return strings.Join(told, " ")
}

// signOf writes one event without its properties: what its kind does not name stands behind a ?.
func signOf(x api.Event) string {
	bare := api.Event{Kind: x.Kind, Tag: x.Tag, Anchor: x.Anchor, Flag: x.Flag}
	flagged := api.Event{Kind: x.Kind, Flag: x.Flag}
	switch {
	case x == flagged && x.Kind == api.EDoc:
		return map[bool]string{true: "=", false: "+"}[x.Flag]
	case x == flagged && x.Kind == api.EDone:
		return map[bool]string{true: ".", false: "-"}[x.Flag]
	case x == api.Event{Kind: api.EAlias, Anchor: x.Anchor}:
		return "*" + x.Anchor
	case x.Kind == api.EScalar && x.Style > 0 && x.Style <= 5 && !x.Flag:
		return ":'\"|>"[x.Style-1:x.Style] + strings.NewReplacer(" ", "_", "\n", "/", "\t", "~").Replace(x.Text)
	case x == bare && x.Kind == api.ESeq:
		return map[bool]string{true: "[", false: "("}[x.Flag]
	case x == bare && x.Kind == api.EMap:
		return map[bool]string{true: "{", false: "<"}[x.Flag]
	case x == api.Event{Kind: api.ESeqEnd} || x == api.Event{Kind: api.EMapEnd}:
		return "end"
	}
	return "?" + strconv.Itoa(x.Kind)
}

// read is what Read tells of these lines.
func read(l []api.Line) string {
	list, e := Read(l)
	switch {
	case e == api.OK:
		return show(list)
	case len(list) > 0:
		return nameOf(e) + " beside " + show(list)
	}
	return nameOf(e)
}

// told is a text and what it must be read as.
type told struct{ text, want string }

// check: what Read tells of each text.
func check(t *testing.T, promise string, list []told) {
	t.Helper()
	for _, x := range list {
		if got := read(all(x.text)); got != x.want {
			t.Errorf("%s: %q: %s, not %s", promise, x.text, got, x.want)
		}
	}
}

// TestBare: P1501: Bare lines are passed over, wherever they stand.
func TestBare(t *testing.T) {
	check(t, "P1501", []told{
		{"", ""}, {" ", ""}, {"\t", ""}, {"#", ""}, {"# c", ""}, {"\n\n", ""}, {"  # c\n\t# d\n \t", ""}, {"#%YAML 1.2", ""}, {"#---", ""}, {"# ...", ""},
		{"\na", "+ :a -"}, {"# c\n\n  # d\n\t\na", "+ :a -"}, {"\n\n---\na", "= :a -"}, {"\t# c\n--- a", "= :a -"}, {"#\n...\n#\n\na", "+ :a -"},
		{"a\n", "+ :a -"}, {"a\n\n\n", "+ :a -"}, {"a\n# c\n\n \t# d\n", "+ :a -"}, {"--- 'a'\n\n# c\n...\n# d\n\n", "= 'a ."}, {"a\n...\n\n", "+ :a ."}, {"a\n...\n# c", "+ :a ."}, {"a\n\n---\n\nb\n\n", "+ :a - = :b -"},
		{"\n%A\n---", "= : -"}, {"# c\n\n%A\n\n# d\n%B\n\t\n  # e\n---\na", "= :a -"}, {"%A\n#\n--- a", "= :a -"}, {"%A\n\n", "ErrSyntax"}, {"%A\n# c\na", "ErrSyntax"}, {"...\n\n%A\n\n---", "= : -"}, {"a\n...\n# c\n%A\n\n--- b", "+ :a . = :b -"},
	})
}

// TestDirectives: P1501: where directives stand, and what must come behind them.
func TestDirectives(t *testing.T) {
	check(t, "P1501", []told{
		{"%YAML 1.2\n---", "= : -"}, {"%YAML 1.2\n--- a", "= :a -"}, {"%YAML 1.2\n---\n- a", "= ( :a ) -"}, {"%A\n%B c\n%YAML 1.1 # d\n%TAG !e! x\n---\na: b", "= < :a :b > -"},
		{"%A", "ErrSyntax"}, {"%A\na", "ErrSyntax"}, {"%A\n...", "ErrSyntax"}, {"%A\n...\n---", "ErrSyntax"}, {"%A\n ---", "ErrSyntax"}, {"%A\n---a", "ErrSyntax"}, {"%A\n--", "ErrSyntax"}, {"%A\n%B", "ErrSyntax"}, {"%A\n %B\n---", "ErrSyntax"}, {"%A\n- a", "ErrSyntax"}, {"%A\n\t---", "ErrSyntax"},
		{"...\n%A\n---", "= : -"}, {"...\n...\n%A\n---\n...\n%B\n---", "= : . = : -"}, {"a\n...\n%A\n--- b", "+ :a . = :b -"}, {"a\n...\n...\n\n%A\n%B\n--- b\n...\n%C\n---\nc\n...", "+ :a . = :b . = :c ."}, {"a\n...\n%A", "ErrSyntax"}, {"a\n...\n%A\nb", "ErrSyntax"}, {"a\n...\n%A\n...", "ErrSyntax"},
		{"'a'\n%A\n---", "ErrSyntax"}, {"---\n%A\n---", "ErrSyntax"}, {"--- 'a'\n%A\n---", "ErrSyntax"}, {"---\n- a\n%A\n---", "ErrSyntax"}, {"a: b\n%A\n--- c", "ErrSyntax"}, {"---\n%YAML 1.2", "ErrSyntax"},
		{"a\n%A\n---", "+ :a_%A - = : -"}, {"--- a\n%YAML 3.0\n--- b", "= :a_%YAML_3.0 - = :b -"}, {"--- |\n%A\n---", "= |%A/ - = : -"}, {"--- \"\n%A\n\"\n", "= \"_%A_ -"}, {"---\n- a\n\n# %A\n---", "= ( :a ) - = : -"},
		{" %A\n---", "ErrSyntax"}, {"   %YAML 1.2\n---", "ErrSyntax"}, {"...\n %A\n---", "ErrSyntax"}, {"\t%A\n---", "ErrSyntax"}, {"--- %A", "ErrSyntax"}, {"a %A", "+ :a_%A -"}, {"a\n...\n  %A\n---", "ErrSyntax"},
	})
}

// TestWhichDirectives: P1501: what props.Directive tells none of, YAML and TAG.
func TestWhichDirectives(t *testing.T) {
	for _, line := range []string{"%", "% A", "%\tA", "%YAML", "%YAML 1", "%YAML 1.", "%YAML .2", "%YAML 1.2.3", "%YAML 1.2 a", "%YAML 1.2#c", "%YAML a.b", "%YAML -1.2", "%YAML 1 .2", "%TAG", "%TAG !", "%TAG ! ", "%TAG !e x", "%TAG e x", "%TAG !e! x y", "%TAG !e!f x", "%TAG !é! x", "%TAG ! {", "%TAG ! %zz", "%A,", "%[", "%TAG !!! x",
		"%YAML 2.0", "%YAML 0.1", "%YAML 01.2", "%YAML 10.2", "%YAML 11.0", "%YAML 12.1", "%YAML 00001.2", "%YAML 99999999999999999999.1", "%YAML 0.0"} {
		check(t, "P1501", []told{{line + "\n---", "ErrSyntax"}, {line + "\n--- a\n", "ErrSyntax"}, {"# c\n%A\n" + line + "\n---", "ErrSyntax"}, {"a\n...\n" + line + "\n---", "ErrSyntax"}, {line + "\n%B\n---", "ErrSyntax"}})
	}
	for _, line := range []string{"%A", "%A b c", "%A\tb", "%é", "%yaml", "%Yaml 2.0", "%YAMLS 3", "%TAGS", "%tag", "%A # [ ]", "%A ", "%%", "%#", "%YAML 1.2", "%YAML 1.0", "%YAML 1.999999999999999999999", "%YAML\t1.2", "%YAML  \t 1.2  # c", "%YAML 1.2 ", "%YAML 1.02\t#", "%TAG ! x", "%TAG !! x", "%TAG !e! x", "%TAG !-! !", "%TAG !e! %41# # c", "%TAG\t!\t#", "%TAG ! x # y", "%TAG ! #", "%YAML\u00a02.0"} {
		check(t, "P1501", []told{{line + "\n---", "= : -"}, {line + "\n--- a\n", "= :a -"}, {"# c\n%A\n" + line + "\n---", "= : -"}, {"a\n...\n" + line + "\n---", "+ :a . = : -"}, {line + "\n%B\n---", "= : -"}, {line, "ErrSyntax"}})
	}
}

// TestOnce: P1501: YAML, and TAG of a handle, stand once in a document's directives; others as often as one likes.
func TestOnce(t *testing.T) {
	check(t, "P1501", []told{
		{"%YAML 1.2\n%YAML 1.2\n---", "ErrSyntax"}, {"%YAML 1.1\n%YAML 1.2\n---", "ErrSyntax"}, {"%YAML 1.2\n\n%A\n# c\n%YAML 1.2\n---", "ErrSyntax"}, {"%YAML 1.2\n%TAG ! x\n%YAML 1.3\n---", "ErrSyntax"}, {"a\n...\n%YAML 1.2\n%YAML 1.2\n---", "ErrSyntax"},
		{"%YAML 1.2\n---\n...\n%YAML 1.2\n---", "= : . = : -"}, {"%YAML 1.2\n--- a\n...\n...\n%YAML 1.1\n--- b\n...\n", "= :a . = :b ."},
		{"%TAG ! a\n%TAG ! b\n---", "ErrSyntax"}, {"%TAG ! a\n%TAG ! a\n---", "ErrSyntax"}, {"%TAG !! a\n%TAG !! b\n---", "ErrSyntax"}, {"%TAG !e! a\n%A\n\n%TAG !e! b\n---", "ErrSyntax"}, {"%TAG !! tag:yaml.org,2002:\n%TAG !! tag:yaml.org,2002:\n---", "ErrSyntax"}, {"%TAG ! !\n%TAG ! !\n---", "ErrSyntax"}, {"%TAG !e! a\n%TAG !f! a\n%TAG !e! a\n---", "ErrSyntax"}, {"a\n...\n%TAG !e! a\n%TAG !e! b\n---", "ErrSyntax"},
		{"%TAG ! a\n%TAG !! b\n%TAG !e! c\n%TAG !f! a\n%TAG !E! a\n---", "= : -"}, {"%TAG !e! a\n---\n...\n%TAG !e! b\n---", "= : . = : -"}, {"%A\n%A\n%A b\n%A b\n---", "= : -"}, {"%yaml 2.0\n%yaml 2.0\n%tag ! a\n%tag ! a\n---", "= : -"},
	})
}

// TestDocuments: P1501: a document begins by a line of ---, or by another one.
func TestDocuments(t *testing.T) {
	check(t, "P1501", []told{
		{"---", "= : -"}, {"--- ", "= : -"}, {"---\t", "= : -"}, {"--- # c", "= : -"}, {"---\n", "= : -"}, {"---\n# c", "= : -"},
		{"--- a", "= :a -"}, {"---\ta", "= :a -"}, {"---   a # c", "= :a -"}, {"--- &x !!a b", "= &x !tag:yaml.org,2002:a :b -"}, {"--- *x", "= *x -"}, {"--- [a, {b: c}]", "= [ :a { :b :c } ] -"}, {"--- 'a\n b'", "= 'a_b -"}, {"--- |\n a\n b", "= |a/b/ -"}, {"--- >-\n a\n b", "= >a_b -"}, {"--- |1\n  a", "= |_a/ -"}, {"--- |\na\n b", "= |a/_b/ -"}, {"--- a\nb", "= :a_b -"}, {"--- !a\n- b", "= !!a ( :b ) -"}, {"--- &a\nb: c", "= &a < :b :c > -"},
		{"---\na", "= :a -"}, {"---\n  a", "= :a -"}, {"--- # c\n- a\n- b", "= ( :a :b ) -"}, {"---\na: b\nc: d", "= < :a :b :c :d > -"}, {"---\n\n\n  a: b", "= < :a :b > -"}, {"---\n? a\n: b", "= < :a :b > -"},
		{"--- - a", "ErrSyntax"}, {"--- a: b", "ErrSyntax"}, {"--- ? a", "ErrSyntax"}, {"--- 'a' b", "ErrSyntax"}, {"--- ---", "= :--- -"}, {"--- ...", "= :... -"}, {"---\n\ta", "ErrTab"}, {"---\n'a'\n b", "ErrIndent"}, {"---\n- a\nb", "ErrSyntax"},
		{"---\n---", "= : - = : -"}, {"---\n---\n---", "= : - = : - = : -"}, {"--- a\n--- b", "= :a - = :b -"}, {"--- a\n\n# c\n---\nb", "= :a - = :b -"}, {"a\n---\nb\n--- c", "+ :a - = :b - = :c -"}, {"- a\n---\n- b", "+ ( :a ) - = ( :b ) -"}, {"a: |\n b\n---\n", "+ < :a |b/ > - = : -"},
		{"a", "+ :a -"}, {"  a", "+ :a -"}, {"a\nb", "+ :a_b -"}, {"- a", "+ ( :a ) -"}, {"a: b", "+ < :a :b > -"}, {"  a: b\n  c: d", "+ < :a :b :c :d > -"}, {"|\n a", "+ |a/ -"}, {"&x a", "+ &x :a -"}, {"&x", "+ &x : -"}, {"*x", "+ *x -"}, {"\"a\"", "+ \"a -"}, {"{}", "+ { } -"}, {"---a", "+ :---a -"}, {" ---", "+ :--- -"}, {"--", "+ :-- -"}, {"----", "+ :---- -"}, {" ...", "+ :... -"}, {"...a", "+ :...a -"}, {"..", "+ :.. -"}, {"....", "+ :.... -"},
		{"]", "ErrSyntax"}, {"@a", "ErrSyntax"}, {"`a", "ErrSyntax"}, {", a", "ErrSyntax"}, {"a:\n\tb", "ErrTab"}, {"a: b\n c: d", "ErrSyntax"}, {"- a\n b", "+ ( :a_b ) -"}, {"'a'\n b", "ErrIndent"}, {"'a'\nb", "ErrSyntax"}, {"\"\\q\"", "ErrSyntax"}, {strings.Repeat("[", api.MaxDepth+1), "ErrDeep"},
	})
}

// TestEnds: P1501: what a line of ... ends, and what may stand on it.
func TestEnds(t *testing.T) {
	check(t, "P1501", []told{
		{"a", "+ :a -"}, {"a\n...", "+ :a ."}, {"---\n...", "= : ."}, {"--- a\n...", "= :a ."}, {"a\n\n# c\n\n...", "+ :a ."}, {"[a]\n...", "+ [ :a ] ."}, {"|\n a\n...", "+ |a/ ."}, {"- a\n...\n- b\n...", "+ ( :a ) . + ( :b ) ."}, {"a\n...\n---\nb", "+ :a . = :b -"}, {"--- a\n...\n--- b\n...\nc", "= :a . = :b . + :c -"}, {"a\n...\nb", "+ :a . + :b -"}, {"a\n...\n  b: c", "+ :a . + < :b :c > -"},
		{"a\n...\n...", "+ :a ."}, {"a\n...\n\n...\n# c\n... # d\n---", "+ :a . = : -"}, {"a\n...\n...\n...\nb", "+ :a . + :b -"},
		{"...", ""}, {"...\n...", ""}, {"# c\n...\n\n...\n", ""}, {"...\na", "+ :a -"}, {"...\n--- a", "= :a -"}, {"...\n...\na\n...", "+ :a ."},
		{"... ", ""}, {"...\t", ""}, {"... # c", ""}, {"...\t#c", ""}, {"...  \t # c # d", ""}, {"... #", ""}, {"a\n... ", "+ :a ."}, {"a\n...\t \n", "+ :a ."}, {"a\n... # c", "+ :a ."}, {"a\n...\t#", "+ :a ."}, {"a\n...\n... # c\n...\t", "+ :a ."},
		{"... a", "ErrSyntax"}, {"...\ta", "ErrSyntax"}, {"... ...", "ErrSyntax"}, {"... ---", "ErrSyntax"}, {"... %A", "ErrSyntax"}, {"... -", "ErrSyntax"}, {"...  a # c", "ErrSyntax"}, {"a\n... b", "ErrSyntax"}, {"a\n... b # c", "ErrSyntax"}, {"--- a\n...\t'", "ErrSyntax"}, {"a\n...\n... b", "ErrSyntax"}, {"a\n...\n\n...\n... b", "ErrSyntax"}, {"...\n... ]", "ErrSyntax"},
		{"a\n...b", "+ :a_...b -"}, {"a\n...#c", "+ :a_...#c -"}, {"...#c", "+ :...#c -"}, {"a\n ...", "+ :a_... -"}, {"'a'\n...b", "ErrSyntax"}, {"'a'\n ...", "ErrIndent"},
		{"[a\n...", "ErrSyntax"}, {"'a\n...", "ErrSyntax"}, {"[a\n---", "ErrSyntax"}, {"\"a\n--- b\"", "ErrSyntax"},
	})
}

// TestTags: P1501: tags are told whole, by the directives of their own document.
func TestTags(t *testing.T) {
	yaml := "!tag:yaml.org,2002:"
	check(t, "P1501", []told{
		{"!!str a", "+ " + yaml + "str :a -"}, {"!a b", "+ !!a :b -"}, {"! a", "+ !! :a -"}, {"!<x:y> a", "+ !x:y :a -"}, {"!<!> a", "+ !! :a -"}, {"!<!a> a", "+ !!a :a -"}, {"!<!!a> a", "+ !!!a :a -"}, {"!<!e!a> a", "+ !!e!a :a -"}, {"!a%21 b", "+ !!a%21 :b -"}, {"a", "+ :a -"}, {"&x !!a b", "+ &x " + yaml + "a :b -"}, {"!!a", "+ " + yaml + "a : -"}, {"--- !!null", "= " + yaml + "null : -"},
		{"!!map\n!!a b: !!c d\n? !e\n: !f g", "+ " + yaml + "map < " + yaml + "a :b " + yaml + "c :d !!e : !!f :g > -"}, {"!a [!b {!c d: !<e> f}, *g]", "+ !!a [ !!b { !!c :d !e :f } *g ] -"}, {"- !a |\n b\n- !b >\n c\n- !c 'd'\n- !d \"e\"", "+ ( !!a |b/ !!b >c/ !!c 'd !!d \"e ) -"}, {"!a\n- !b\n  - !c d", "+ !!a ( !!b ( !!c :d ) ) -"},
		{"%TAG ! x:\n--- !y a", "= !x:y :a -"}, {"%TAG ! x:\n---\n- !y a\n- ! b\n- !!c d\n- !<e> f", "= ( !x:y :a !! :b " + yaml + "c :d !e :f ) -"}, {"%TAG !! x:\n---\n- !!y a\n- !y b", "= ( !x:y :a !!y :b ) -"}, {"%TAG !e! x:\n--- !e!y a", "= !x:y :a -"}, {"%TAG !e! x:\n---\n- !e!y a\n- !!y b\n- !y c", "= ( !x:y :a " + yaml + "y :b !!y :c ) -"}, {"%TAG ! a\n%TAG !! b\n%TAG !e! c\n%TAG !f! d\n---\n- !x\n- !!x\n- !e!x\n- !f!x\n- !<x>", "= ( !ax : !bx : !cx : !dx : !x : ) -"}, {"%TAG !e! !\n--- !e!x a", "= !!x :a -"}, {"%TAG !e! !f!\n%TAG !f! y\n--- !e!x a", "= !!f!x :a -"}, {"%TAG !E! x\n%TAG !e! y\n---\n!e!a b: !E!c d", "= < !ya :b !xc :d > -"}, {"%TAG !e! x%41\n--- !e!%42 a", "= !x%41%42 :a -"},
		{"!e!x a", "ErrTag"}, {"--- !e!x a", "ErrTag"}, {"- a\n- !e!x b", "ErrTag"}, {"!e!x {}", "ErrTag"}, {"a: !e!x\n- b", "ErrTag"}, {"!e!x", "ErrTag"}, {"[[!a-b!x c]]", "ErrTag"}, {"? !e!x\n: a", "ErrTag"}, {"%TAG !e! x\n--- !f!y a", "ErrTag"}, {"%TAG !e! x\n--- !E!y a", "ErrTag"}, {"%TAG !! x\n--- !e!y a", "ErrTag"}, {"%A !e! x\n--- !e!y a", "ErrTag"}, {"%tag !e! x\n--- !e!y a", "ErrTag"},
		{"%TAG !e! x\n--- !e!a b\n--- !e!a c", "ErrTag"}, {"%TAG !e! x\n--- !e!a b\n...\n!e!a c", "ErrTag"}, {"%TAG !e! x\n---\n...\n%A\n--- !e!a c", "ErrTag"}, {"--- !e!a b\n...\n%TAG !e! x\n---", "ErrTag"},
		{"%TAG !! x:\n--- !!y a\n--- !!y b", "= !x:y :a - = " + yaml + "y :b -"}, {"%TAG ! x:\n--- !y a\n...\n!y b", "= !x:y :a . + !!y :b -"}, {"%TAG !e! x\n--- !e!a b\n...\n%TAG !e! y\n--- !e!a c\n...\n%TAG !f! z\n--- !f!a d", "= !xa :b . = !ya :c . = !za :d -"}, {"%TAG !e! x\n---\n...\n%TAG !f! z\n--- !e!a d", "ErrTag"},
	})
}

// TestFirstError: P1502: of two errors the first one that is met is told.
func TestFirstError(t *testing.T) {
	check(t, "P1502", []told{
		// A node's errors ahead of its tags'.
		{"!e!x [", "ErrSyntax"}, {"- !e!x a\n- [", "ErrSyntax"}, {"- !e!x a\n-\n\tb", "ErrTab"}, {"!e!x 'a'\n b", "ErrIndent"}, {"!e!x " + strings.Repeat("[", api.MaxDepth+1), "ErrDeep"}, {"--- !e!x 'a' b", "ErrSyntax"}, {"- !e!x 'a'\n  - b", "ErrIndent"}, {"- [a]\n- !e!x a", "ErrTag"},
		// Its tags' ahead of what stands behind its `...`.
		{"!e!x a\n... b", "ErrTag"}, {"--- !e!x a\n...\n... b", "ErrTag"}, {"!e!x a\n...\n]", "ErrTag"}, {"!e!x a\n...\n%", "ErrTag"}, {"!e!x a\n...\n%A", "ErrTag"},
		// A node's ahead of what stands behind its `...`.
		{"a:\n\tb\n... c", "ErrTab"}, {"'a'\n b\n... c", "ErrIndent"},
		// One document's ahead of the next one's.
		{"--- !e!x a\n--- [", "ErrTag"}, {"--- [\n--- !e!x a", "ErrSyntax"}, {"'a'\n b\n---\n\tc", "ErrIndent"}, {"---\n\tc\n---\n'a'\n b", "ErrTab"}, {"a\n--- !e!x b\n---\n\tc", "ErrTag"}, {"a\n---\n\tc\n--- !e!x b", "ErrTab"}, {"a\n... b\n--- !e!x c", "ErrSyntax"}, {"a\n...\n... b\n---\n\tc", "ErrSyntax"}, {"... a\n!e!x b", "ErrSyntax"},
		// Directives' ahead of their document's, behind those of the one ahead.
		{"%\n--- !e!x a", "ErrSyntax"}, {"%YAML 2.0\n---\n\ta", "ErrSyntax"}, {"%TAG !e! a\n%TAG !e! b\n--- !f!x a", "ErrSyntax"}, {"%A\n!e!x a", "ErrSyntax"}, {"%A\n\ta", "ErrSyntax"}, {"a:\n\tb\n...\n%", "ErrTab"}, {"'a'\n b\n...\n%YAML 2.0\n---", "ErrIndent"},
	})
}

// TestWithin: P1501: with tags that are cut all else is told as Read tells it, its errors too.
func TestWithin(t *testing.T) {
	for _, s := range append(texts(), "%TAG !e! abc:\n--- !e!x [!e!y a, !!str b, !c d, ! e, !<fgh> i, *j]\n--- !e!x k", "[!a b, !!map {!c d: *e}]") {
		whole, wrong := Read(all(s))
		for _, most := range []int{-1, 0, 1, 2, 4, 5, 20, 21, 1 << 40} {
			want := slices.Clone(whole)
			for at := range want {
				want[at].Tag = want[at].Tag[:max(min(len(want[at].Tag), most), 0)]
			}
			got, e := Within(all(s), most)
			if e != wrong || !slices.Equal(got, want) {
				t.Errorf("P1501: %q with %d bytes of tags: %v, %v, not %v, %v", s, most, got, e, want, wrong)
			}
		}
	}
}

// TestLongPrefix: P1501: of many tags with a long prefix no more is made than was asked for.
func TestLongPrefix(t *testing.T) {
	l := all("%TAG !e! " + strings.Repeat("a", 1<<19) + "\n--- [" + strings.Repeat("!e!x ,", 80000) + "]")
	list, e := Within(l, 10)
	if e != api.OK || len(list) != 80004 || list[80001].Tag != "aaaaaaaaaa" {
		t.Errorf("P1501: %d events, %v", len(list), e)
	}
	list, e = Read(append(l[:1:1], all("--- !e!x a")...))
	if e != api.OK || len(list) != 3 || list[1].Tag != strings.Repeat("a", 1<<19)+"x" {
		t.Errorf("P1501: of one tag with a long prefix: %d events, %v", len(list), e)
	}
}
