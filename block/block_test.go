package block

import (
	"bytes"
	"fmt"
	"math"
	"math/rand"

	"slices"
	"strings"
	"testing"

	"scholium/api"
	"scholium/fold"
	"scholium/inline"
	"scholium/lines"
	"scholium/plain"
	"scholium/props"
	"scholium/tail"
	"scholium/tree"

	doublequotes "scholium/double"
	singlequotes "scholium/single"
)

// show is a list of nodes with a node a line, for what a test tells.
func show(l []api.Node) string {
	text := ""
	for _, x := range l[:min(len(l), 20)] {
		text += "\n\t" + showNode(x)
	}
	return text
}

func showNode(x api.Node) string {
	return fmt.Sprintf("%d/%d %q %q %q %d-%d head %d mark %d %v", x.Kind, x.Style, x.Tag, x.Anchor, x.Value, x.Start, x.End, x.Head, x.Mark, x.Kids)
}

func sameNode(a, b api.Node) bool {
	return a.Kind == b.Kind && a.Style == b.Style && a.Tag == b.Tag && a.Anchor == b.Anchor && a.Value == b.Value &&
		a.Start == b.Start && a.End == b.End && a.Head == b.Head && a.Mark == b.Mark && slices.Equal(a.Kids, b.Kids)
}

func sameNodes(a, b []api.Node) bool {
	return slices.EqualFunc(a, b, sameNode)
}

// parse is Parse of all lines of s.
func parse(s string) ([]api.Node, api.Errno, int) {
	b := []byte(s)
	l := lines.Split(b)
	return Parse(b, l, 0, len(l))
}

// written is an own short form of a tree: what its nodes are, and the bytes of s that are theirs.
func written(s string, l []api.Node, at int) string {
	x := l[at]
	text := x.Tag
	if x.Anchor != "" {
		text = "&" + x.Anchor + " " + text
	}
	switch x.Kind {
	case api.Null:
		return text + "()"
	case api.Alias:
		return "*" + x.Value
	case api.Scalar:
		return text + "(" + x.Value + ")"
	}
	var kids []string
	for _, k := range x.Kids {
		kids = append(kids, written(s, l, k))
	}
	if x.Kind == api.Seq {
		return text + "[" + strings.Join(kids, " ") + "]"
	}
	return text + "{" + strings.Join(kids, " ") + "}"
}

func TestExample(t *testing.T) {
	// P15.2: `a:\n- b\n`: Map, a, Seq, b.
	l, e, at := parse("a:\n- b\n")
	want := []api.Node{
		{Kind: api.Map, Style: api.Block, Tag: "!!map", Start: 0, End: 6, Kids: []int{1, 2}},
		{Kind: api.Scalar, Style: api.Plain, Tag: "!!str", Value: "a", Start: 0, End: 1},
		{Kind: api.Seq, Style: api.Block, Tag: "!!seq", Start: 3, End: 6, Head: 0, Mark: 2, Kids: []int{3}},
		{Kind: api.Scalar, Style: api.Plain, Tag: "!!str", Value: "b", Start: 5, End: 6, Head: 3, Mark: 4},
	}
	if !sameNodes(l, want) || e != api.OK || at != 0 {
		t.Error(show(l), e, at)
	}
}

func TestItem(t *testing.T) {
	// P15.1: `-` and then a blank (32), or the end.
	for _, s := range []string{"-", "- ", "- a", "-  ", "- - a", "- #", "- \t"} {
		if !Item([]byte(s)) {
			t.Errorf("%q is none", s)
		}
	}
	for _, s := range []string{"", " ", " -", "-a", "--", "---", "-\t", "-\t ", "-#", "-\r", "+ a", "a", "?", "? a", "\xE2\x80\x93 a"} {
		if Item([]byte(s)) {
			t.Errorf("%q is one", s)
		}
	}
	for c := range 256 {
		if Item([]byte{byte(c)}) != (c == '-') || Item([]byte{'-', byte(c)}) != (c == ' ') {
			t.Error(c)
		}
	}
}

func TestKey(t *testing.T) {
	for _, r := range []struct {
		s       string
		n, mark int
	}{
		{"a: b", 1, 2}, {"a:", 1, 2}, {"a: ", 1, 2}, {"a : b", 1, 3}, {"a   :", 1, 5}, {"a b: c", 3, 4}, {"a: b: c", 1, 2},
		{"a:b: c", 3, 4}, {"a::", 2, 3}, {"a:: b", 2, 3}, {":a: b", 2, 3}, {"::", 1, 2}, {"-a: b", 2, 3}, {"?a:", 2, 3}, {"--: a", 2, 3}, {"-: a", 1, 2}, {"?: a", 1, 2}, {"-:", 1, 2},
		{"a#b: c", 3, 4}, {"a,b: c", 3, 4}, {"a]: c", 2, 3}, {"a[}: c", 3, 4}, {"-,: c", 2, 3}, {"1: a", 1, 2}, {"<<: a", 2, 3},
		{"'a': b", 3, 4}, {"'a' :", 3, 5}, {"'': b", 2, 3}, {"'a: b': c", 6, 7}, {"'it''s': c", 7, 8}, {"'# a': c", 5, 6},
		{"\"a\": b", 3, 4}, {"\"a\"  : b", 3, 6}, {"\"\":", 2, 3}, {"\"a: b\": c", 6, 7}, {"\"\\\"\": c", 4, 5}, {"\"\\u0041\": c", 8, 9},
		{"\xC3\xA4: b", 2, 3}, {"a\xC2\xA0: b", 3, 4}, {"key: # none", 3, 4}, {"= : b", 1, 3},
	} {
		if n, mark, e := Key([]byte(r.s)); n != r.n || mark != r.mark || e != api.OK {
			t.Errorf("%q: %d %d %d", r.s, n, mark, e)
		}
	}
}

func TestNoKey(t *testing.T) {
	for _, s := range []string{
		"", "a", ":", ": b", " a: b", "\ta: b", "a:b", "a:\tb", "a\t: b", "a #: b", "a # b: c", "# a: b", "a :b",
		"'a'", "'a':b", "'a'b: c", "'a: b", "'a", "'a'\t: b", "'a' b: c", "'a' # : b", "'a' 'b': c",
		"\"a\"", "\"a\":b", "\"a: b", "\"\\q\": b", "\"\\", "\"a\"\"b\": c", "\"a\" :b",
		"- a: b", "-", "- : b", "? a: b", "? : b", "*a: b", "*a : b", "&a b: c", "!t a: b", "[a]: b", "{a: b}: c", "[]:", "|: a", ">: a",
		"%a: b", "@a: b", "`a: b", ", a: b", "] a: b", "---: a", "---a: b", "...: a",
	} {
		if n, mark, e := Key([]byte(s)); n != 0 || mark != 0 || e != api.OK {
			t.Errorf("%q: %d %d %d", s, n, mark, e)
		}
	}
}

func TestLongKeys(t *testing.T) {
	// P15.1: of a scalar of more than MaxKey bytes ErrForm, if it is a key; its quotes are bytes of it.
	for n := api.MaxKey - 3; n < api.MaxKey+4; n++ {
		for _, s := range []string{strings.Repeat("k", n), "'" + strings.Repeat("k", n-2) + "'", "\"" + strings.Repeat("k", n-2) + "\"", strings.Repeat("'", 2*(n/2)), "k" + strings.Repeat(" ", n-2) + "k", strings.Repeat("\xC3\xA4", n/2)} {
			for _, behind := range []string{":", ": b", "   :", "    : b"} {
				wantN, wantMark, wantE := len(s), len(s)+strings.IndexByte(behind, ':')+1, api.OK
				if len(s) > api.MaxKey {
					wantN, wantMark, wantE = 0, 0, api.ErrForm
				}
				if n, mark, e := Key([]byte(s + behind)); n != wantN || mark != wantMark || e != wantE {
					t.Errorf("%q %q: %d %d %d", s, behind, n, mark, e)
				}
			}
			for _, behind := range []string{"", " ", ":b", " :b", " #: b", ":\tb"} {
				if n, mark, e := Key([]byte(s + behind)); n != 0 || mark != 0 || e != api.OK {
					t.Errorf("%q %q: %d %d %d", s, behind, n, mark, e)
				}
			}
		}
	}
}

// keyByRule says by other means what Key asks: of all colons with nothing joined to them, the first one behind a whole scalar.
func keyByRule(s string) (n, mark int, e api.Errno) {
	for at := range len(s) {
		if s[at] != ':' || at+1 < len(s) && s[at+1] != ' ' {
			continue
		}
		n := len(strings.TrimRight(s[:at], " "))
		_, in1, ok1 := singlequotes.Take([]byte(s))
		_, in2, ok2 := doublequotes.Take([]byte(s))
		if ok1 && in1 == n || ok2 && in2 == n || plain.Starts([]byte(s), false) && plain.Length([]byte(s), false) == n {
			if n > api.MaxKey {
				return 0, 0, api.ErrForm
			}
			return n, at + 1, api.OK
		}
	}
	return 0, 0, api.OK
}

// eachText calls do with every text of at most most pieces.
func eachText(most int, pieces []string, do func(s string)) {
	eachLonger("", most, pieces, do)
}

func eachLonger(s string, more int, pieces []string, do func(s string)) {
	do(s)
	if more == 0 {
		return
	}
	for _, p := range pieces {
		eachLonger(s+p, more-1, pieces, do)
	}
}

func TestKeyOfEveryShortText(t *testing.T) {
	// P15.1, by another rule.
	pieces := []string{"a", ":", " ", "'", "\"", "\\", "#", "-", "\t"}
	met := 0
	eachText(6, pieces, func(s string) {
		n, mark, e := Key([]byte(s))
		wantN, wantMark, wantE := keyByRule(s)
		if n != wantN || mark != wantMark || e != wantE {
			t.Fatalf("%q: %d %d %d, not %d %d %d", s, n, mark, e, wantN, wantMark, wantE)
		}
		if n > 0 {
			met++
		}
	})
	if met < 1000 {
		t.Error(met)
	}
	for c := range 256 {
		for _, s := range []string{string([]byte{byte(c)}) + ": b", "a" + string([]byte{byte(c)}) + ": b", "a:" + string([]byte{byte(c)}), "'a'" + string([]byte{byte(c)}) + ":", "a :" + string([]byte{byte(c)})} {
			n, mark, e := Key([]byte(s))
			wantN, wantMark, wantE := keyByRule(s)
			if n != wantN || mark != wantMark || e != wantE {
				t.Errorf("%q: %d %d %d, not %d %d %d", s, n, mark, e, wantN, wantMark, wantE)
			}
		}
	}
}

func TestParseWhatItIs(t *testing.T) {
	// P15.2: kinds, tags, anchors, texts and who stands in whom.
	for _, r := range []struct{ s, want string }{
		{"a", "!!str(a)"}, {"  a  # b", "!!str(a)"}, {"12", "!!int(12)"}, {"'12'", "!!str(12)"}, {"\"\\n\"", "!!str(\n)"}, {"*a", "*a"},
		{"[a, {b: c}]", "!!seq[!!str(a) !!map{!!str(b) !!str(c)}]"}, {"{}", "!!map{}"}, {"&x", "&x !!null()"}, {"!", "!!str()"}, {"! a", "!!str(a)"}, {"!t 'a'", "!t(a)"},
		{"# a\n\n# b\na # c\n\n  # d\n", "!!str(a)"}, {"\n   \n   a\n", "!!str(a)"}, {"a#b", "!!str(a#b)"}, {"~", "!!null(~)"},
		// Sequences.
		{"- a", "!!seq[!!str(a)]"}, {"-", "!!seq[!!null()]"}, {"- # c", "!!seq[!!null()]"}, {"-\n-", "!!seq[!!null() !!null()]"}, {"-  a\n-   b", "!!seq[!!str(a) !!str(b)]"},
		{" - a\n\n # c\n - b", "!!seq[!!str(a) !!str(b)]"}, {"- a\n# c\n- b", "!!seq[!!str(a) !!str(b)]"}, {"-\n a", "!!seq[!!str(a)]"}, {"-\n\n# c\n   a\n- b", "!!seq[!!str(a) !!str(b)]"},
		{"-\n - a\n - b\n- c", "!!seq[!!seq[!!str(a) !!str(b)] !!str(c)]"}, {"- - a\n  - b\n- c", "!!seq[!!seq[!!str(a) !!str(b)] !!str(c)]"}, {"-   - a\n    - b", "!!seq[!!seq[!!str(a) !!str(b)]]"},
		{"- - -\n- -", "!!seq[!!seq[!!seq[!!null()]] !!seq[!!null()]]"}, {"- -\n    a", "!!seq[!!seq[!!str(a)]]"}, {"- -\n   a\n- b", "!!seq[!!seq[!!str(a)] !!str(b)]"},
		{"-\n # c\n-", "!!seq[!!null() !!null()]"}, {"- -1\n- --\n- -a", "!!seq[!!int(-1) !!str(--) !!str(-a)]"},
		{"- -\n  -", "!!seq[!!seq[!!null() !!null()]]"},
		// Mappings.
		{"a: b", "!!map{!!str(a) !!str(b)}"}, {"a:", "!!map{!!str(a) !!null()}"}, {"a: # c\nb:", "!!map{!!str(a) !!null() !!str(b) !!null()}"}, {"a:\n  b", "!!map{!!str(a) !!str(b)}"}, {"a :  b  ", "!!map{!!str(a) !!str(b)}"},
		{"a:\n b: c\n d: e\nf: g", "!!map{!!str(a) !!map{!!str(b) !!str(c) !!str(d) !!str(e)} !!str(f) !!str(g)}"}, {"1: 2\n~: true", "!!map{!!int(1) !!int(2) !!null(~) !!bool(true)}"}, {"'1': \"2\"", "!!map{!!str(1) !!str(2)}"},
		{"a: [b]\nc: {d: e}\n", "!!map{!!str(a) !!seq[!!str(b)] !!str(c) !!map{!!str(d) !!str(e)}}"}, {"a: *b\nb: &c d", "!!map{!!str(a) *b !!str(b) &c !!str(d)}"}, {"a: 'b: c' # d", "!!map{!!str(a) !!str(b: c)}"},
		{"  a: b\n  c: d", "!!map{!!str(a) !!str(b) !!str(c) !!str(d)}"}, {"a:\n\n  # c\n\n    b\nc:", "!!map{!!str(a) !!str(b) !!str(c) !!null()}"}, {"a: a\na: a", "!!map{!!str(a) !!str(a) !!str(a) !!str(a)}"},
		// A sequence in the column of its key, but nothing else.
		{"a:\n- b\n- c\nd: e", "!!map{!!str(a) !!seq[!!str(b) !!str(c)] !!str(d) !!str(e)}"}, {"a:\n# c\n\n-\nd:\n-", "!!map{!!str(a) !!seq[!!null()] !!str(d) !!seq[!!null()]}"}, {"a:\n -\n -\n", "!!map{!!str(a) !!seq[!!null() !!null()]}"},
		{"- a:\n  - b\n- c", "!!seq[!!map{!!str(a) !!seq[!!str(b)]} !!str(c)]"}, {"- a:\n- b", "!!seq[!!map{!!str(a) !!null()} !!str(b)]"}, {"a:\n  b:\n  - c\n  d:\n  - e\n", "!!map{!!str(a) !!map{!!str(b) !!seq[!!str(c)] !!str(d) !!seq[!!str(e)]}}"},
		{"a:\n- - b\n  - c\n- d:\n  - e\n  f:\ng:", "!!map{!!str(a) !!seq[!!seq[!!str(b) !!str(c)] !!map{!!str(d) !!seq[!!str(e)] !!str(f) !!null()}] !!str(g) !!null()}"},
		{"- a: b\n  c: d\n-   e: f\n    g: h", "!!seq[!!map{!!str(a) !!str(b) !!str(c) !!str(d)} !!map{!!str(e) !!str(f) !!str(g) !!str(h)}]"}, {"- a:\n    b\n  c:\n   d", "!!seq[!!map{!!str(a) !!str(b) !!str(c) !!str(d)}]"}, {"- - a: b\n    c:\n  - d", "!!seq[!!seq[!!map{!!str(a) !!str(b) !!str(c) !!null()} !!str(d)]]"},
		// Props.
		{"&a !t b", "&a !t(b)"}, {"!t &a\nb", "&a !t(b)"}, {"&a # c\n\n# c\n- b", "&a !!seq[!!str(b)]"}, {"!t\na: b", "!t{!!str(a) !!str(b)}"}, {"!\n1", "!!str(1)"}, {"!\n- a", "!!seq[!!str(a)]"}, {"&a\n'b'", "&a !!str(b)"}, {"&a\n12", "&a !!int(12)"}, {"!!str\n12", "!!str(12)"}, {"&a\n[b]", "&a !!seq[!!str(b)]"}, {"&a\n|\n b", "&a !!str(b\n)"}, {"!t\n  >-\n    b", "!t(b)"},
		{"- &a\n- !t", "!!seq[&a !!null() !t()]"}, {"- &a\n  - b\n- c", "!!seq[&a !!seq[!!str(b)] !!str(c)]"}, {"- &a\n b", "!!seq[&a !!str(b)]"}, {"- &a b\n- !t c", "!!seq[&a !!str(b) !t(c)]"}, {"- !t [a]", "!!seq[!t[!!str(a)]]"}, {"- - &a\n   b", "!!seq[!!seq[&a !!str(b)]]"}, {"- - &a\n  - b", "!!seq[!!seq[&a !!null() !!str(b)]]"}, {"- &a # c\n  b: c", "!!seq[&a !!map{!!str(b) !!str(c)}]"},
		{"a: &x\nb: !t", "!!map{!!str(a) &x !!null() !!str(b) !t()}"}, {"a: &x !t\n  b: c", "!!map{!!str(a) &x !t{!!str(b) !!str(c)}}"}, {"a: !t\n - b", "!!map{!!str(a) !t[!!str(b)]}"}, {"a: &x\n\n  b", "!!map{!!str(a) &x !!str(b)}"}, {"a:\n  &x\n  b: c\nd:", "!!map{!!str(a) &x !!map{!!str(b) !!str(c)} !!str(d) !!null()}"}, {"a:\n  &x\n - b", "!!map{!!str(a) &x !!seq[!!str(b)]}"}, {"a:\n  &x\nb:", "!!map{!!str(a) &x !!null() !!str(b) !!null()}"}, {"-\n  !t\n b", "!!seq[!t(b)]"},
		// Literal and folded scalars.
		{"|\n a\n  b\n", "!!str(a\n b\n)"}, {"|\na\n", "!!str(a\n)"}, {">\n a\n b\n", "!!str(a b\n)"}, {"| # c\n # a\n", "!!str(# a\n)"}, {"|-\n a\n\n", "!!str(a)"}, {"|+\n a\n\n", "!!str(a\n\n)"}, {"!t |1-\n  a", "!t( a)"}, {"&x >2\n   a\n", "&x !!str( a\n)"}, {"|", "!!str()"}, {"|+\n\n\n", "!!str(\n\n)"}, {"&x   |\n a", "&x !!str(a\n)"},
		{"- |\n a\n- b", "!!seq[!!str(a\n) !!str(b)]"}, {"- |\n- >\n", "!!seq[!!str() !!str()]"}, {"- - |\n   a\n  - b\n", "!!seq[!!seq[!!str(a\n) !!str(b)]]"}, {"a: |\n b: c\n d\ne: f", "!!map{!!str(a) !!str(b: c\nd\n) !!str(e) !!str(f)}"}, {"a: |\n x\n\n\nb: >-\n", "!!map{!!str(a) !!str(x\n) !!str(b) !!str()}"}, {"a: |\n\n# c\nb: 1", "!!map{!!str(a) !!str() !!str(b) !!int(1)}"}, {"a:\n  |\n  b\n", "!!map{!!str(a) !!str(b\n)}"}, {"a:\n    |\n b\n", "!!map{!!str(a) !!str(b\n)}"}, {"- a: |\n   b\n  c: d\n", "!!seq[!!map{!!str(a) !!str(b\n) !!str(c) !!str(d)}]"}, {"a: ! |\n 1", "!!map{!!str(a) !!str(1\n)}"}, {"a: |1\n  b", "!!map{!!str(a) !!str( b\n)}"}, {"- |2\n   b", "!!seq[!!str( b\n)]"},
		{"a: |\n x\n# c\nb:", "!!map{!!str(a) !!str(x\n) !!str(b) !!null()}"},
		// Nothing.
		{"", "!!null()"}, {"\n", "!!null()"}, {"# c", "!!null()"}, {"   # c\n  \n", "!!null()"}, {"\xEF\xBB\xBF", "!!null()"}, {"\xEF\xBB\xBFa", "!!str(a)"}, {"\xEF\xBB\xBFa:\r\n- b\r\n", "!!map{!!str(a) !!seq[!!str(b)]}"}, {"a: b # c\r\nd: e\r\n", "!!map{!!str(a) !!str(b) !!str(d) !!str(e)}"},
	} {
		l, e, at := parse(r.s)
		if e != api.OK || at != 0 || len(l) == 0 {
			t.Errorf("%q: %d %d", r.s, e, at)
			continue
		}
		if got := written(r.s, l, 0); got != r.want {
			t.Errorf("%q: %s, not %s", r.s, got, r.want)
		}
	}
}

func TestParsePlaces(t *testing.T) {
	// P15.2: where nodes lie: Start, End, Head and Mark.
	for _, r := range []struct{ s, want string }{
		{" # c\n  a # b", "7-8 7 7;"},
		{"\xEF\xBB\xBF a", "4-5 4 4;"},
		{"\r\n&a  !t  b", "2-11 2 2;"},
		{"&a  # c\n\n b", "0-11 0 0;"},
		{"  &a", "2-4 2 2;"},
		{"  &a # c\n# d", "2-4 2 2;"},
		{"  |\n x\n\n\n", "2-8 2 2;"},
		{"  | # c", "2-3 2 2;"},
		{"  >1-\n# c\n", "2-5 2 2;"},
		{"&a |+\r\n  x\r\n\r\n", "0-12 0 0;"},
		{"&a\n|\n x\n", "0-7 0 0;"},
		{"- a\n-  b", "0-8 0 0;2-3 0 1;7-8 4 5;"},
		{" -\n -", "1-5 1 1;2-2 1 2;5-5 4 5;"},
		{"-   # c\n\n  a", "0-12 0 0;11-12 0 1;"},
		{"- &a # c\n- !t", "0-13 0 0;2-4 0 1;11-13 9 10;"},
		{"- [a, b]", "0-8 0 0;2-8 0 1;3-4 3 3;6-7 6 6;"},
		{"- {a : b, c: }", "0-14 0 0;2-14 0 1;3-4 3 3;7-8 3 6;10-11 10 10;12-12 10 12;"},
		{"a : b", "0-5 0 0;0-1 0 0;4-5 0 3;"},
		{"a:  # c\nb:", "0-10 0 0;0-1 0 0;2-2 0 2;8-9 8 8;10-10 8 10;"},
		{"a:\n\n    b # c", "0-9 0 0;0-1 0 0;8-9 0 2;"},
		{"'a':  *b", "0-8 0 0;0-3 0 0;6-8 0 4;"},
		{"a: &b", "0-5 0 0;0-1 0 0;3-5 0 2;"},
		{"a: &b\n  - c", "0-11 0 0;0-1 0 0;3-11 0 2;10-11 8 9;"},
		{"a: &b\n\n  c: d", "0-13 0 0;0-1 0 0;3-13 0 2;9-10 9 9;12-13 9 11;"},
		{"- - a\n  - b\n- c", "0-15 0 0;2-11 0 1;4-5 2 3;10-11 8 9;14-15 12 13;"},
		{"-\n  - a\n  -", "0-11 0 0;4-11 0 1;6-7 4 5;11-11 10 11;"},
		{"- a: b\n  c:\n# d\n", "0-11 0 0;2-11 0 1;2-3 2 2;5-6 2 4;9-10 9 9;11-11 9 11;"},
		{"a:\n- b\n- c\n", "0-10 0 0;0-1 0 0;3-10 0 2;5-6 3 4;9-10 7 8;"},
		{"a: |\n x\n\nb: >-\n", "0-14 0 0;0-1 0 0;3-8 0 2;9-10 9 9;12-14 9 11;"},
		{"&a\n- b", "0-6 0 0;5-6 3 4;"},
		{" &a\n   b: c", "1-11 1 1;7-8 7 7;10-11 7 9;"},
		{"a: [b, {c: d}] # e", "0-14 0 0;0-1 0 0;3-14 0 2;4-5 4 4;7-13 7 7;8-9 8 8;11-12 8 10;"},
	} {
		l, e, at := parse(r.s)
		got := ""
		for _, x := range l {
			got += fmt.Sprintf("%d-%d %d %d;", x.Start, x.End, x.Head, x.Mark)
		}
		if got != r.want || e != api.OK || at != 0 {
			t.Errorf("%q: %s, not %s (%d %d)", r.s, got, r.want, e, at)
		}
	}
}

func TestParseStyles(t *testing.T) {
	// P15.2: styles and tags of what inline.Tag says.
	for _, r := range []struct{ s, want string }{
		{"", "0/0 !!null"}, {"! # c", "0/0 !!str"}, {"&a !", "0/0 !!str"}, {"!t", "0/0 !t"}, {"a", "1/1 !!str"}, {"1.5", "1/1 !!float"}, {"! 1.5", "1/1 !!str"}, {"!\n1.5", "1/1 !!str"}, {"!!int\n'1'", "1/2 !!int"}, {"'1'", "1/2 !!str"}, {"\"1\"", "1/3 !!str"},
		{"|\n 1", "1/4 !!str"}, {">\n 1", "1/5 !!str"}, {"!t |\n 1", "1/4 !t"}, {"!t >\n 1", "1/5 !t"}, {"!\n>\n 1", "1/5 !!str"}, {"[]", "2/7 !!seq"}, {"{}", "3/7 !!map"}, {"!\n[]", "2/7 !!seq"}, {"!t\n{}", "3/7 !t"}, {"*a", "4/0 "},
		{"-", "2/6 !!seq"}, {"a:", "3/6 !!map"}, {"!\n-", "2/6 !!seq"}, {"!\na:", "3/6 !!map"}, {"!t\n-", "2/6 !t"}, {"!!t\na:", "3/6 !!t"},
	} {
		l, e, _ := parse(r.s)
		if e != api.OK || len(l) == 0 {
			t.Errorf("%q: %d", r.s, e)
			continue
		}
		if got := fmt.Sprintf("%d/%d %s", l[0].Kind, l[0].Style, l[0].Tag); got != r.want {
			t.Errorf("%q: %s, not %s", r.s, got, r.want)
		}
	}
	for _, r := range []struct{ s, want string }{{"a: b", "1/1 !!str"}, {"'a': b", "1/2 !!str"}, {"\"\\x41\": b", "1/3 !!str"}, {"12: b", "1/1 !!int"}, {"'12': b", "1/2 !!str"}, {"~: b", "1/1 !!null"}, {"true : b", "1/1 !!bool"}} {
		l, e, _ := parse(r.s)
		if e != api.OK || len(l) != 3 {
			t.Errorf("%q: %d", r.s, e)
			continue
		}
		if got := fmt.Sprintf("%d/%d %s", l[1].Kind, l[1].Style, l[1].Tag); got != r.want {
			t.Errorf("%q: %s, not %s", r.s, got, r.want)
		}
	}
}

func TestParseErrForm(t *testing.T) {
	for _, s := range []string{
		// Behind the root there is no next line.
		"a\nb", "a\n b", "'a'\n# c\n  b", "[a]\n[b]", "- a\nb", "- a\nb: c", " - a\n- b", " a: b\nc: d", "  - a\n b", "|\n a\nb", "&a\n&b", "*a\n*b", "{}\n- a",
		// No node at all, or something behind one.
		"%a", "@", "`a", ",", "]", "}", "? a", "?", ": a", "--- a", "---", "...", "...a", "\ta", "- \ta", "-\n\t", "a:\n\tb", "\t# c", "'a", "\"a", "\"\\q\"", "[a", "{a", "{a b: c", "[a] b", "'a' b", "'a'#", "*a b", "*", "*a: b", "a: b\tc", "a\t# c", "a: 'b' 'c'", "a: b: c", "'a': 'b': c", "a: - b", "a: -", "a: ? b", "a: %", "[a]: b", "{a: b}: c", "- : a", ": a",
		// Props.
		"&", "!a!", "&a &b c", "!a !b c", "&a *b", "&a b: c", "!t - a", "- &a b: c", "- !t - a", "a: &b - c", "a: !t b: c", "&a: b", "&a\n&b c", "&a\n!t c", "&a\n&b", "&a\n*b", "!t\n  *b", "- &a\n  &b c", "- &a\n  *b", "a: &a\n  !t\n  - b", "&a\n!t\n- b", "&a\n&b\n&c\nd", "&a\n&", "&a\n- *b\n *c", "&a\n&b |\n c", "a: !t\n- b", "- &a\n- b\n c", "&a\n[b", "&a\n%",
		// Literal and folded scalars.
		"| a", "|a", "|--", "|12", "|0", "|#", "> - a", "&a | b", "a: |1 b", "|\n   \n  a", "- |\n  \n- b", "a: |\n  b\n    \n", "a: |\n b\n# c\n d", "a: |2\n  b\n c", "|: a", "- >\n   a\n  b",
		// Sequences.
		"- a\n b", "- a\n - b", "- - a\n - b", "- - a\n   - b", "-\n- a\n  b: c", "-\n  - a\n - b", "-\n - a\n  - b", "- a\n  # c\n  b", "- - a\n  b", "- - a\n  b: c", "- 'a\n  b'", "- [a,\n  b]", "- a\n-b", "- a\n--", "- |\n a\n b\n- c\n d: e", "-\n a\n b", "- a:\n - b",
		// Mappings.
		"a: b\n c", "a: b\nc", "a: b\n- c", "a:\n  b: c\n d: e", "a:\n b: c\n  d: e", "a: b\n  c: d", "a:\n- b\nc", "a:\n- b\n c: d", "a:\n- b\n - c", "a: b\n'c'", "a: b\n[c]", "a: b\n*c", "a: b\n&c d: e", "a: b\n|", "a: b\n? c", "a:\nb", "a:\n'b'", "a:\n[b]", "a:\n&b c", "a:\n|\n b", "- a: b\n c: d", "- a: b\n   c: d", "- a: b\n  - c", "- a: b\n  c", "a: b\n:\n", "a: b\n: c", "a:b\nc: d", "a:\n b\n c: d", "a: &b\nc",
		// Keys that are too long.
		strings.Repeat("k", 129) + ":", "- " + strings.Repeat("k", 129) + ": v", "a: 1\n'" + strings.Repeat("k", 127) + "': v", "a:\n " + strings.Repeat("k", 129) + ": v", "&a\n" + strings.Repeat("k", 129) + ":", "{" + strings.Repeat("k", 129) + ": v}",
	} {
		if l, e, at := parse(s); e != api.ErrForm || len(l) != 0 || at < 0 || at > len(s) {
			t.Errorf("%q: %d at %d%s", s, e, at, show(l))
		}
	}
}

func TestLongKeysOfMappings(t *testing.T) {
	// P15.2, by P15.1: a key has MaxKey bytes at most; what is as long and no key, is not refused.
	k := strings.Repeat("k", api.MaxKey)
	for _, s := range []string{k + ": v", "a:\n- " + k + "  : v", "- " + k + ":", k + "k", "- " + k + "k", "a: " + k + "k", "'" + k + "'", "a: \"" + k + "\"", k + "k:v", "[" + k + "k]"} {
		if l, e, _ := parse(s); e != api.OK || !tree.Valid(l) {
			t.Errorf("%q: %d", s, e)
		}
	}
}

// deep is n collections in one another, each of them begun by the next one of begins, and inner in the last one.
func deep(n int, inner string, begins ...string) string {
	text, indent := "", 0
	fresh := true // no entry stands on the line yet
	for i := range n {
		b := begins[i%len(begins)]
		if fresh {
			text += strings.Repeat(" ", indent)
		}
		text += b
		fresh = strings.HasSuffix(b, "\n")
		if fresh {
			indent++
		} else {
			indent += len(b)
		}
	}
	if fresh {
		text += strings.Repeat(" ", indent)
	}
	return text + inner
}

func TestDepth(t *testing.T) {
	// P15.2: a collection stands in MaxDepth others at most: no others of MaxDepth + 1.
	for _, begins := range [][]string{{"- "}, {"-\n"}, {"a:\n"}, {"- ", "a:\n"}, {"-\n", "a:\n"}, {"a:\n", "- "}, {"- &a\n"}, {"a: &a\n"}, {"-   "}, {"- ", "-\n", "'a' : !t\n"}} {
		for _, inner := range []string{"x", "*x", "&a", "&a x", "|\n", "'x'", "&a\n"} {
			l, e, _ := parse(deep(api.MaxDepth, inner, begins...))
			// What is nested below props has none of its own, and is no alias.
			last := begins[(api.MaxDepth-1)%len(begins)]
			wrong := strings.ContainsAny(last, "&!") && strings.ContainsAny(inner[:1], "&*")
			if wrong {
				if e != api.ErrForm {
					t.Errorf("%q %q: %d", begins, inner, e)
				}
				continue
			}
			if e != api.OK || tree.Depth(l) != api.MaxDepth {
				t.Errorf("%q %q: %d", begins, inner, e)
			}
		}
		for _, inner := range []string{"- x", "-", "x: y", "'x':", "[]", "{}", "[x", "{%", "- %", "-\n\t", "x: [", "x:\n- y", "- - -"} {
			for n := api.MaxDepth; n < api.MaxDepth+3; n++ {
				text := deep(n, inner, begins...)
				if l, e, at := parse(text); e != api.ErrDepth || len(l) != 0 || at < 0 || at > len(text) {
					t.Errorf("%q %q: %d at %d", begins, inner, e, at)
				}
			}
			l, e, _ := parse(deep(api.MaxDepth-1, inner, begins...))
			if e == api.OK && tree.Depth(l) != api.MaxDepth {
				t.Errorf("%q %q: %d", begins, inner, e)
			}
		}
	}
}

func TestDepthAmongOthers(t *testing.T) {
	full := strings.Repeat("- ", api.MaxDepth)
	long := strings.Repeat("k", api.MaxKey+1)
	for _, r := range []struct {
		s string
		e api.Errno
	}{
		// A mapping begins behind its first Key's error, and ahead of all else.
		{full + long + ": v", api.ErrForm}, {full + "k: v\n" + strings.Repeat(" ", len(full)) + long + ": v", api.ErrDepth}, {full + "k: *", api.ErrDepth}, {full + "'k': 'v", api.ErrDepth},
		{full + "- " + long + ": v", api.ErrDepth}, {full + "-\n" + "x", api.ErrDepth}, {full + "- x\n" + "\t", api.ErrDepth},
		// What is met ahead of it is told ahead of it.
		{"- *\n" + full + "- x", api.ErrForm}, {full + "x y: z\n- x", api.ErrDepth}, {full + "'x", api.ErrForm}, {full + "&a - x", api.ErrForm}, {full + "&a [", api.ErrDepth}, {full + "&a &b [", api.ErrForm}, {full + "&a x: y", api.ErrForm}, {full + "| [", api.ErrForm},
		// Props of its own are a fault of what is nested below props, once it is read.
		{"&a\n&b " + strings.Repeat("[", api.MaxDepth+1), api.ErrDepth}, {"&a\n&b\n" + full + "- x", api.ErrDepth}, {"&a\n&b\n&c\n" + full + "[]", api.ErrDepth}, {"&a\n&b\n&c\n&d " + strings.Repeat("[", api.MaxDepth+1), api.ErrDepth}, {"&a\n&b\n" + full + "x", api.ErrForm}, {"&a\n&b\n&\n" + full + "- x", api.ErrForm}, {"&a\n&b &c\n" + full + "- x", api.ErrForm}, {"a: &a\n  !t\n" + full + "- x", api.ErrForm}, {"a: &a\n  !t\n  " + full + "x", api.ErrDepth},
		// Props in the column of their parent, or ahead of it, are not nested there, nor is what is behind them.
		{"a: &a\n!t\n  " + full + "- x", api.ErrForm}, {"- &a\n!t\n  " + full + "- x", api.ErrForm}, {" - &a\n!t\n  " + full + "- x", api.ErrForm}, {"- b: &a\n !t\n    " + full + "x", api.ErrForm},
		// A sequence in the very column of its key stands in the mapping as well.
		{deep(api.MaxDepth-1, "k:\n"+strings.Repeat(" ", api.MaxDepth-1)+"- x", "a:\n"), api.ErrDepth}, {deep(api.MaxDepth-2, "k:\n"+strings.Repeat(" ", api.MaxDepth-2)+"- x", "a:\n"), api.OK},
		// In flow, those around it count as well.
		{strings.Repeat("- ", api.MaxDepth-2) + "[[x]]", api.OK}, {strings.Repeat("- ", api.MaxDepth-2) + "[[[]]]", api.ErrDepth}, {strings.Repeat("- ", api.MaxDepth-2) + "k: [x]", api.OK}, {strings.Repeat("- ", api.MaxDepth-2) + "k: {a: {}}", api.ErrDepth}, {strings.Repeat("[", api.MaxDepth) + strings.Repeat("]", api.MaxDepth), api.OK}, {strings.Repeat("[", api.MaxDepth+1), api.ErrDepth},
	} {
		if l, e, at := parse(r.s); e != r.e || e != api.OK && len(l) != 0 || at < 0 || at > len(r.s) {
			t.Errorf("%.80q: %d, not %d", r.s, e, r.e)
		}
	}
}

// branch is a node with all that is below it, by itself.
type branch struct {
	node api.Node
	kids []branch
}

// list is the tree that b is, at the end of l.
func (b branch) list(l []api.Node) []api.Node {
	place := len(l)
	l = append(l, b.node)
	for _, k := range b.kids {
		l[place].Kids = append(l[place].Kids, len(l))
		l = k.list(l)
	}
	return l
}

// places gives b the Head and Mark that its parent gives it.
func (b branch) places(head, mark int) branch {
	b.node.Head, b.node.Mark = head, mark
	if b.node.Kind == api.Null && b.node.End == 0 && b.node.Anchor == "" && b.node.Tag == "!!null" {
		b.node.Start, b.node.End = mark, mark
	}
	return b
}

// ruler reads P15.2's sentences one by one, each of its calls one of them: it knows its lines alone, and hands on what it found.
type ruler struct {
	b []byte
	l []lines.Line
}

// found is what a sentence gave: the node, whether it has props of its own, the line behind it.
type found struct {
	branch
	own  bool
	next int
	e    api.Errno
}

func (r ruler) row(i int) string {
	return string(r.b[r.l[i].From:r.l[i].To])
}

// next is the first line from i on that is not idle.
func (r ruler) next(i int) int {
	for i < len(r.l) && (lines.Blank(r.b, r.l[i]) || strings.TrimLeft(r.row(i), " ")[0] == '#') {
		i++
	}
	return i
}

func (r ruler) nested(i, n int, same bool, depth int) found {
	k := r.next(i)
	if k < len(r.l) {
		d := lines.Indent(r.b, r.l[k])
		if d > n {
			return r.node(k, d, n, depth)
		}
		if d == n && same && itemByRule(r.row(k)[d:]) {
			return r.sequence(k, d, depth)
		}
	}
	return found{branch: branch{node: api.Node{Kind: api.Null, Tag: "!!null"}}, next: i}
}

func itemByRule(rest string) bool {
	return rest == "-" || strings.HasPrefix(rest, "- ")
}

func (r ruler) node(i, c, n, depth int) found {
	rest := r.row(i)[c:]
	if itemByRule(rest) {
		return r.sequence(i, c, depth)
	}
	if n, _, e := keyByRule(rest); e != api.OK {
		return found{e: e}
	} else if n > 0 {
		return r.mapping(i, c, depth)
	}
	return r.stands(i, c, n, depth)
}

func (r ruler) stands(i, c, n, depth int) found {
	rest, start := r.row(i)[c:], r.l[i].From+c
	p, size, ok := props.Take([]byte(rest))
	if !ok {
		return found{e: api.ErrForm}
	}
	if size > 0 && tail.Clear([]byte(rest[size:])) {
		f := r.nested(i+1, n, false, depth)
		if f.e != api.OK {
			return f
		}
		if f.own || f.node.Kind == api.Alias {
			return found{e: api.ErrForm}
		}
		f.own = true
		f.node.Start = start
		if f.node.Kind == api.Null {
			f.node.End = start + size
		}
		f.node.Tag, f.node.Anchor = inline.Tag(f.node.Kind, f.node.Style, p.Tag, f.node.Value), p.Anchor
		return f
	}
	behind := strings.TrimLeft(rest[size:], " ")
	if h, m, ok := fold.TakeHeader([]byte(behind)); ok {
		rows, next, ok := fold.Body(r.b, r.l, i+1, n, h)
		if !ok || !tail.Clear([]byte(behind[m:])) {
			return found{e: api.ErrForm}
		}
		x := api.Node{Kind: api.Scalar, Style: api.Literal, Tag: "!!str", Anchor: p.Anchor, Value: fold.Value(h, rows...), Start: start, End: start + len(rest) - len(behind) + m}
		if h.Folded {
			x.Style = api.Folded
		}
		if p.Tag != "" && p.Tag != "!" {
			x.Tag = p.Tag
		}
		if next > i+1 {
			x.End = r.l[next-1].To
		}
		return found{branch: branch{node: x}, own: size > 0, next: next}
	}
	l, m, e := inline.Take([]byte(rest), false, depth)
	if e == api.OK && !tail.Clear([]byte(rest[m:])) {
		e = api.ErrForm
	}
	if e != api.OK {
		return found{e: e}
	}
	return found{branch: grown(l, 0, start), own: size > 0, next: i + 1}
}

// grown is the tree l below at as a branch, its places by bytes more.
func grown(l []api.Node, at, by int) branch {
	b := branch{node: l[at]}
	b.node.Kids = nil
	b.node.Start, b.node.End, b.node.Head, b.node.Mark = l[at].Start+by, l[at].End+by, l[at].Head+by, l[at].Mark+by
	for _, k := range l[at].Kids {
		b.kids = append(b.kids, grown(l, k, by))
	}
	return b
}

func (r ruler) sequence(i, c, depth int) found {
	if depth >= api.MaxDepth {
		return found{e: api.ErrDepth}
	}
	all := branch{node: api.Node{Kind: api.Seq, Style: api.Block, Tag: "!!seq", Start: r.l[i].From + c}}
	for {
		rest := r.row(i)[c+1:]
		c2 := c + 1 + len(rest) - len(strings.TrimLeft(rest, " "))
		var f found
		switch {
		case tail.Clear([]byte(rest)):
			f = r.nested(i+1, c, false, depth+1)
		case r.row(i)[c2] == '&' || r.row(i)[c2] == '!':
			f = r.stands(i, c2, c, depth+1)
		default:
			f = r.node(i, c2, c, depth+1)
		}
		if f.e != api.OK {
			return f
		}
		head := r.l[i].From + c
		all.kids = append(all.kids, f.places(head, head+1))
		all.node.End = all.kids[len(all.kids)-1].node.End
		i = r.next(f.next)
		switch {
		case i < len(r.l) && lines.Indent(r.b, r.l[i]) > c:
			return found{e: api.ErrForm}
		case i == len(r.l) || lines.Indent(r.b, r.l[i]) < c || !itemByRule(r.row(i)[c:]):
			return found{branch: all, next: i}
		}
	}
}

func (r ruler) mapping(i, c, depth int) found {
	if depth >= api.MaxDepth {
		return found{e: api.ErrDepth}
	}
	all := branch{node: api.Node{Kind: api.Map, Style: api.Block, Tag: "!!map", Start: r.l[i].From + c}}
	for {
		text := r.row(i)[c:]
		n, mark, e := keyByRule(text)
		if e != api.OK || n == 0 {
			return found{e: api.ErrForm}
		}
		head := r.l[i].From + c
		k := branch{node: api.Node{Kind: api.Scalar, Style: api.Plain, Value: text[:n], Start: head, End: head + n, Head: head, Mark: head}}
		switch text[0] {
		case '"':
			k.node.Style = api.Double
			k.node.Value, _, _ = doublequotes.Take([]byte(text))
		case '\'':
			k.node.Style = api.Single
			k.node.Value, _, _ = singlequotes.Take([]byte(text))
		}
		k.node.Tag = inline.Tag(api.Scalar, k.node.Style, "", k.node.Value)
		var f found
		if rest := text[mark:]; tail.Clear([]byte(rest)) {
			f = r.nested(i+1, c, true, depth+1)
		} else {
			f = r.stands(i, c+mark+len(rest)-len(strings.TrimLeft(rest, " ")), c, depth+1)
		}
		if f.e != api.OK {
			return f
		}
		all.kids = append(all.kids, k, f.places(head, head+mark))
		all.node.End = all.kids[len(all.kids)-1].node.End
		i = r.next(f.next)
		switch {
		case i < len(r.l) && lines.Indent(r.b, r.l[i]) > c:
			return found{e: api.ErrForm}
		case i == len(r.l) || lines.Indent(r.b, r.l[i]) < c:
			return found{branch: all, next: i}
		}
	}
}

// parseByRule is Parse by the ruler.
func parseByRule(b []byte, l []lines.Line, first, end int) ([]api.Node, api.Errno) {
	r := ruler{b: b, l: l[:end]}
	f := r.nested(first, -1, false, 0)
	if f.e != api.OK {
		return nil, f.e
	}
	if r.next(f.next) < end {
		return nil, api.ErrForm
	}
	place := f.node.Start
	if r.next(first) == end {
		switch {
		case first < end:
			place = l[first].From
		case first > 0:
			place = l[first-1].Next
		case bytes.HasPrefix(b, []byte("\xEF\xBB\xBF")):
			place = 3
		}
	}
	return f.places(place, place).list(nil), api.OK
}

// holdRule holds Parse of some of s's lines against the rule.
func holdRule(t *testing.T, s string, first, end int) (nodes []api.Node, ok bool) {
	b := []byte(s)
	l := lines.Split(b)
	nodes, e, at := Parse(b, l, first, end)
	want, wantE := parseByRule(b, l, first, end)
	if e != wantE || !sameNodes(nodes, want) {
		t.Fatalf("%q from %d to %d: %d%s\nnot %d%s", s, first, end, e, show(nodes), wantE, show(want))
	}
	if at < 0 || at > len(b) || e == api.OK && at != 0 {
		t.Fatalf("%q from %d to %d: at %d", s, first, end, at)
	}
	if e == api.OK && !tree.Valid(nodes) {
		t.Fatalf("%q from %d to %d: no tree%s", s, first, end, show(nodes))
	}
	return nodes, e == api.OK
}

// holdWhole holds Parse of all lines of s against the rule.
func holdWhole(t *testing.T, s string) bool {
	_, ok := holdRule(t, s, 0, len(lines.Split([]byte(s))))
	return ok
}

func TestEveryShortText(t *testing.T) {
	// P15.2, byte by byte.
	for _, r := range []struct {
		most   int
		pieces []string
	}{
		{8, []string{"-", " ", "a", "\n"}}, {7, []string{"a", ":", " ", "-", "\n"}}, {6, []string{"&a", "*a", " ", "\n", "- ", "a:", "#"}}, {6, []string{"|", "\n", " ", "a", "- ", "a:", "#"}}, {5, []string{"[", "]", "'", "\"", "\t", "a: ", "- ", "\n", " ", "\r\n"}}, {5, []string{"!", "! ", "a", "\n", ">", "- ", "k: ", "  ", "&a "}},
	} {
		met := 0
		eachText(r.most, r.pieces, func(s string) {
			if holdWhole(t, s) {
				met++
			}
		})
		if met < 500 {
			t.Error(r.pieces, met)
		}
	}
}

func TestEveryFewLines(t *testing.T) {
	// P15.2, line by line.
	for _, r := range []struct {
		most int
		rows string
	}{
		{3, "|a:|  a:|a: b|  b: c| b|- a|-| - b|- c: d|  - e|- - f|&x| !t|- &y|a: &z|&v w|  &v w|*x|  *x|a: !||a: pipe| x|  y| # c|- pipe|  pipe-|  [a]|'k' : \"v\"|- - &a|    c|\tx|- >2|a: [|{}"},
		{4, "|a:|- b|-| c:|  - d| e|&f|a: pipe| &g h|- k: !t|  l: m|- - n|  # o"},
		{5, "a:|-| - b| c:|  d|&e|- -"},
		{6, "a:|-| - | -|  x"},
	} {
		var rows []string
		for _, row := range strings.Split(r.rows, "|") {
			rows = append(rows, strings.ReplaceAll(row, "pipe", "|")+"\n")
		}
		met := 0
		eachText(r.most, rows, func(s string) {
			if holdWhole(t, s) {
				met++
			}
		})
		if met < 500 {
			t.Error(r.rows, met)
		}
	}
}

// drawer writes a document as it goes along, and lists what its nodes are to be.
type drawer struct {
	*rand.Rand
	text  []byte
	nodes []api.Node
	named int
}

func (d *drawer) write(s ...string) {
	for _, x := range s {
		d.text = append(d.text, x...)
	}
}

func (d *drawer) one(l ...string) string {
	return l[d.Intn(len(l))]
}

func (d *drawer) blanks(least int) string {
	return strings.Repeat(" ", least+d.Intn(3))
}

// end writes what may stand behind a node on its line, and the break.
func (d *drawer) end() {
	d.write(d.one("", "", " # x: - y", "   ", "  #"), d.one("\n", "\n", "\r\n"))
}

func (d *drawer) idle() {
	for d.Intn(4) == 0 {
		d.write(d.blanks(0), d.one("", "# a: b", "#", "# \tx"), d.one("\n", "\r\n"))
	}
}

// props are ones that no node has yet, or none.
func (d *drawer) props() (p props.Props, text string) {
	if d.Intn(3) > 0 {
		return p, ""
	}
	d.named++
	p.Anchor = fmt.Sprint("n", d.named)
	if d.Intn(2) == 0 {
		p.Tag = d.one("!", "!t", "!!u")
		return p, p.Tag + d.blanks(1) + "&" + p.Anchor
	}
	return p, "&" + p.Anchor
}

// add lists a node that begins here.
func (d *drawer) add(kind, style int, p props.Props) (place int) {
	at := len(d.text)
	d.nodes = append(d.nodes, api.Node{Kind: kind, Style: style, Tag: inline.Tag(kind, style, p.Tag, ""), Anchor: p.Anchor, Start: at, End: at})
	return len(d.nodes) - 1
}

// take writes a node that ends on its line, as inline reads it.
func (d *drawer) take(s string) {
	l, n, e := inline.Take([]byte(s), false, 0)
	if n != len(s) || e != api.OK {
		panic(s)
	}
	d.nodes = grown(l, 0, len(d.text)).list(d.nodes)
	d.write(s)
}

func (d *drawer) leaf(propsText string) {
	if propsText != "" {
		propsText += d.blanks(1)
	} else if d.Intn(8) == 0 {
		d.take("*n1")
		d.end()
		d.idle()
		return
	}
	d.take(propsText + d.one("a", "12", "a b#c", "-x", "::x", "it's", "'it''s: a'", "\"\\n # \"", "[]", "{a: [b, *n1], 'c': }", "[ x , [y] ]", "\xC3\xA4"))
	d.end()
	d.idle()
}

// rows writes a literal or folded scalar.
func (d *drawer) rows(outer int, p props.Props, propsText string) {
	place := d.add(api.Scalar, api.Literal, p)
	if propsText != "" {
		d.write(propsText, d.blanks(1))
	}
	sign, breaks := "|", "\n"
	if d.Intn(2) == 0 {
		d.nodes[place].Style, sign = api.Folded, ">"
	}
	if d.Intn(2) == 0 {
		sign, breaks = sign+"-", ""
	}
	d.write(sign)
	d.nodes[place].End = len(d.text)
	d.end()
	indent := strings.Repeat(" ", outer+1+d.Intn(2))
	if len(indent) == 0 {
		indent = d.blanks(0)
	}
	var rows []string
	for range d.Intn(3) {
		row := d.one("a", "- b", "c: d", "e")
		rows = append(rows, row)
		d.write(indent, row)
		d.nodes[place].End = len(d.text)
		d.write(d.one("\n", "\r\n"))
	}
	between := map[int]string{api.Literal: "\n", api.Folded: " "}[d.nodes[place].Style]
	if d.nodes[place].Value = strings.Join(rows, between); len(rows) > 0 {
		d.nodes[place].Value += breaks
	}
}

// stands writes the node that begins here, which is no block collection, unless it is one below props.
func (d *drawer) stands(outer, depth int, mayProps bool) {
	p, text := d.props()
	if !mayProps {
		p, text = props.Props{}, ""
	}
	switch what := d.Intn(4); {
	case what == 0:
		d.rows(outer, p, text)
	case what == 1 && text != "":
		place, start := len(d.nodes), len(d.text)
		d.write(text)
		end := len(d.text)
		d.end()
		d.idle()
		if d.Intn(3) == 0 {
			d.add(api.Null, api.None, p)
			d.nodes[place].End = end
		} else {
			column := outer + 1 + d.Intn(3)
			d.write(strings.Repeat(" ", column))
			d.node(column, outer, depth, false)
		}
		x := &d.nodes[place]
		if x.Kind == api.Alias {
			x.Kind = -1 // it may not be one: see draw
		}
		x.Start, x.Anchor, x.Tag = start, p.Anchor, inline.Tag(x.Kind, x.Style, p.Tag, x.Value)
	default:
		d.leaf(text)
	}
}

// node writes a node that begins here, in that column.
func (d *drawer) node(column, outer, depth int, mayProps bool) {
	what := d.Intn(5)
	switch {
	case what < 2 && depth < 5:
		d.collection(api.Seq, column, depth)
	case what < 4 && depth < 5:
		d.collection(api.Map, column, depth)
	default:
		d.stands(outer, depth, mayProps)
	}
}

func (d *drawer) collection(kind, column, depth int) {
	place := d.add(kind, api.Block, props.Props{})
	for i := range 1 + d.Intn(3) {
		if i > 0 {
			d.write(strings.Repeat(" ", column))
		}
		head := len(d.text)
		if kind == api.Map {
			d.nodes[place].Kids = append(d.nodes[place].Kids, len(d.nodes))
			d.take(d.one("k", "'k: l'", "\"\\x41\"", "12", "k l", "-k"))
			d.write(d.one("", "", "  "), ":")
		} else {
			d.write("-")
		}
		mark, kid := len(d.text), len(d.nodes)
		d.nodes[place].Kids = append(d.nodes[place].Kids, kid)
		d.behind(kind, column, len(d.text)-head, depth+1)
		x := &d.nodes[kid]
		if x.Kind == api.Null && x.Anchor == "" {
			x.Start, x.End = mark, mark
		}
		x.Head, x.Mark = head, mark
		d.nodes[place].End = x.End
	}
}

// behind writes what stands behind the sign of an entry of that column.
func (d *drawer) behind(kind, column, size, depth int) {
	switch d.Intn(5) {
	case 0:
		d.end()
		d.idle()
		d.add(api.Null, api.None, props.Props{})
	case 1, 2:
		blanks := d.blanks(1)
		d.write(blanks)
		if kind == api.Map {
			d.stands(column, depth, true)
		} else {
			d.node(column+size+len(blanks), column, depth, true)
		}
	case 3:
		if kind == api.Map && depth < 5 {
			d.end()
			d.idle()
			d.write(strings.Repeat(" ", column))
			d.collection(api.Seq, column, depth)
			return
		}
		fallthrough
	default:
		d.end()
		d.idle()
		more := 1 + d.Intn(3)
		d.write(strings.Repeat(" ", column+more))
		d.node(column+more, column, depth, true)
	}
}

// draw is a document, and its nodes; e: whether it has an alias below props.
func draw(r *rand.Rand) (text string, nodes []api.Node, e api.Errno) {
	d := drawer{Rand: r}
	if r.Intn(8) == 0 {
		d.write("\xEF\xBB\xBF")
	}
	d.idle()
	column := r.Intn(3)
	d.write(strings.Repeat(" ", column))
	d.node(column, -1, 0, true)
	root := &d.nodes[0]
	root.Head, root.Mark = root.Start, root.Start
	text = string(d.text)
	if r.Intn(3) == 0 {
		text = strings.TrimSuffix(strings.TrimSuffix(text, "\n"), "\r")
	}
	if slices.ContainsFunc(d.nodes, func(x api.Node) bool { return x.Kind < 0 }) {
		return text, nil, api.ErrForm
	}
	return text, d.nodes, api.OK
}

func TestDrawnDocuments(t *testing.T) {
	// P15.2: what was written is read again, with all its places.
	r := rand.New(rand.NewSource(15))
	var kinds [5]int
	for range 25000 {
		s, want, wantE := draw(r)
		l, e, at := parse(s)
		if e != wantE || !sameNodes(l, want) || e == api.OK && at != 0 {
			t.Fatalf("%q: %d at %d%s\nnot %d%s", s, e, at, show(l), wantE, show(want))
		}
		for _, x := range l {
			kinds[x.Kind]++
		}
		holdWhole(t, s)
	}
	if slices.Min(kinds[:]) < 1000 {
		t.Error(kinds)
	}
}

func TestSpoiltDocuments(t *testing.T) {
	// P15.2, by the rule: drawn documents with a few bytes put in, or left out.
	r := rand.New(rand.NewSource(16))
	var errs [4]int
	for range 25000 {
		s, _, _ := draw(r)
		for range 1 + r.Intn(2) {
			at := r.Intn(len(s) + 1)
			to := min(at+r.Intn(3), len(s))
			s = s[:at] + []string{"", " ", "\n", "-", "- ", "a", ":", ": ", "&b ", "!c", "|", "#", " #", "'", "[", "\t", "*d"}[r.Intn(17)] + s[to:]
		}
		l := lines.Split([]byte(s))
		_, e, _ := Parse([]byte(s), l, 0, len(l))
		errs[e]++
		holdWhole(t, s)
	}
	if errs[api.OK] < 5000 || errs[api.ErrForm] < 5000 {
		t.Error(errs)
	}
}

func TestWithinItsParent(t *testing.T) {
	// P15.2: each node lies in its parent, behind its Mark, and all entries one behind the other.
	r := rand.New(rand.NewSource(17))
	for range 20000 {
		s, _, _ := draw(r)
		l, _, _ := parse(s)
		for i, x := range l {
			if x.Start < 0 || x.End < x.Start || x.End > len(s) || x.Head > x.Mark || x.Mark > x.Start {
				t.Fatalf("%q: node %d%s", s, i, show(l))
			}
			last := x.Start
			for _, k := range x.Kids {
				y := l[k]
				if y.Start < last || y.End > x.End || y.Head < x.Start {
					t.Fatalf("%q: Kid %d of %d%s", s, k, i, show(l))
				}
				last = y.End
			}
			if x.Style != api.Block {
				continue
			}
			for n, k := range x.Kids {
				y := l[k]
				if x.Kind == api.Seq && (s[y.Head] != '-' || y.Mark != y.Head+1) || x.Kind == api.Map && n%2 == 1 && (s[y.Mark-1] != ':' || y.Head != l[x.Kids[n-1]].Start) || x.Kind == api.Map && n%2 == 0 && (y.Head != y.Start || y.Mark != y.Start) {
					t.Fatalf("%q: Kid %d of %d%s", s, k, i, show(l))
				}
			}
		}
	}
}

func TestNothing(t *testing.T) {
	// P15.2: a Null without text, at From of l[first], or at the Next of the line ahead, or at b's beginning.
	for _, r := range []struct {
		s                string
		first, end, want int
	}{
		{"", 0, 0, 0}, {"\xEF\xBB\xBF", 0, 0, 3}, {"\xEF\xBB\xBFa", 0, 0, 3}, {"a", 0, 0, 0}, {"a", 1, 1, 1}, {"a\n", 1, 1, 2}, {"a\r\nb", 1, 1, 3}, {"a\nb\n", 2, 2, 4}, {"\xEF\xBB\xBFa\nb", 1, 1, 5},
		{"\n", 0, 1, 0}, {"   ", 0, 1, 0}, {"  # c", 0, 1, 0}, {"\xEF\xBB\xBF\n", 0, 1, 3}, {"\xEF\xBB\xBF # c\n\n", 0, 2, 3}, {"a\n\n  # c\nb", 1, 3, 2}, {"a\n\n  # c\nb", 2, 3, 3}, {"a\n\n  # c\nb", 2, 2, 3}, {"a\n\n  # c\nb", 3, 3, 9},
	} {
		l, ok := holdRule(t, r.s, r.first, r.end)
		want := api.Node{Kind: api.Null, Tag: "!!null", Start: r.want, End: r.want, Head: r.want, Mark: r.want}
		if !ok || len(l) != 1 || !sameNode(l[0], want) {
			t.Errorf("%q from %d to %d:%s, not at %d", r.s, r.first, r.end, show(l), r.want)
		}
	}
}

func TestSomeLines(t *testing.T) {
	// P15.2: no line ahead of first counts, and none from end on; places are counted from b's beginning.
	s := "---\n- a\n- b # c\n...\nd: |\n e\n\n f\n--- # g\nh:\n- i\n  j: [k]\n"
	b := []byte(s)
	l := lines.Split(b)
	for _, r := range []struct {
		first, end int
		want       string
	}{
		{1, 3, "!!seq[!!str(a) !!str(b)]"}, {1, 2, "!!seq[!!str(a)]"}, {2, 3, "!!seq[!!str(b)]"}, {4, 8, "!!map{!!str(d) !!str(e\n\nf\n)}"}, {4, 7, "!!map{!!str(d) !!str(e\n)}"}, {4, 5, "!!map{!!str(d) !!str()}"}, {7, 8, "!!str(f)"}, {9, 11, "!!map{!!str(h) !!seq[!!str(i)]}"}, {9, 10, "!!map{!!str(h) !!null()}"}, {11, 12, "!!map{!!str(j) !!seq[!!str(k)]}"},
	} {
		nodes, ok := holdRule(t, s, r.first, r.end)
		if !ok || written(s, nodes, 0) != r.want {
			t.Errorf("from %d to %d:%s", r.first, r.end, show(nodes))
		}
	}
	for first := range len(l) + 1 {
		for end := first; end <= len(l); end++ {
			holdRule(t, s, first, end)
		}
	}
	for _, r := range [][2]int{{0, 1}, {0, 2}, {1, 4}, {3, 4}, {3, 5}, {7, 9}, {9, 12}, {1, 12}} {
		if nodes, e, at := Parse(b, l, r[0], r[1]); e != api.ErrForm || len(nodes) != 0 || at < 0 || at > len(b) {
			t.Errorf("from %d to %d: %d at %d", r[0], r[1], e, at)
		}
	}
}

func TestLinesAlone(t *testing.T) {
	// P15.2: some lines of a text are read as they are alone.
	r := rand.New(rand.NewSource(18))
	for range 10000 {
		ahead, _, _ := draw(r)
		ahead = strings.TrimPrefix(ahead, "\xEF\xBB\xBF") + "\n"
		alone, _, _ := draw(r)
		alone = strings.TrimPrefix(alone, "\xEF\xBB\xBF") + "\n"
		behind, _, _ := draw(r)
		b := []byte(ahead + alone + behind)
		l := lines.Split(b)
		first := len(lines.Split([]byte(ahead)))
		nodes, e, _ := Parse(b, l, first, first+len(lines.Split([]byte(alone))))
		want, wantE, _ := parse(alone)
		if e != wantE || !sameNodes(nodes, tree.Shift(want, len(ahead))) {
			t.Fatalf("%q behind %q: %d%s", alone, ahead, e, show(nodes))
		}
	}
}

func TestNoLines(t *testing.T) {
	// R8: from a line that is none there is nothing; lines that are none end nothing.
	b := []byte("\xEF\xBB\xBF- a\n- b\n")
	l := lines.Split(b)
	for _, r := range []struct{ first, end, want int }{
		{-1, 2, 3}, {-1, -1, 3}, {math.MinInt, math.MaxInt, 3}, {math.MinInt, math.MinInt, 3}, {-1, 0, 3},
		{3, 2, 11}, {3, 3, 11}, {3, 9, 11}, {math.MaxInt, math.MaxInt, 11}, {math.MaxInt, 0, 11}, {2, 9, 11}, {2, math.MaxInt, 11},
		{1, 0, 7}, {1, -1, 7}, {0, -1, 3}, {0, math.MinInt, 3},
	} {
		nodes, e, at := Parse(b, l, r.first, r.end)
		want := api.Node{Kind: api.Null, Tag: "!!null", Start: r.want, End: r.want, Head: r.want, Mark: r.want}
		if e != api.OK || at != 0 || len(nodes) != 1 || !sameNode(nodes[0], want) {
			t.Errorf("from %d to %d: %d at %d%s", r.first, r.end, e, at, show(nodes))
		}
	}
	for _, end := range []int{2, 3, math.MaxInt} {
		nodes, e, _ := Parse(b, l, 0, end)
		if e != api.OK || len(nodes) != 3 {
			t.Errorf("to %d: %d%s", end, e, show(nodes))
		}
	}
	for _, first := range []int{-1, 0, 1, math.MinInt, math.MaxInt} {
		for _, end := range []int{-1, 0, 1, math.MinInt, math.MaxInt} {
			if nodes, e, _ := Parse(nil, nil, first, end); e != api.OK || len(nodes) != 1 || nodes[0].Start != 0 {
				t.Errorf("from %d to %d: %d%s", first, end, e, show(nodes))
			}
		}
	}
}

func TestAnyLines(t *testing.T) {
	// R1: whatever lines come with a text, the call ends.
	r := rand.New(rand.NewSource(19))
	for range 30000 {
		s, _, _ := draw(r)
		b := []byte(s)
		other, _, _ := draw(r)
		l := lines.Split([]byte(other))
		for range 1 + r.Intn(4) {
			if len(l) == 0 {
				break
			}
			x := &l[r.Intn(len(l))]
			far := []int{-1, 0, 1, len(b), len(b) + 1, r.Intn(len(b) + 1), math.MaxInt, math.MinInt, math.MaxInt - 1}[r.Intn(9)]
			switch r.Intn(4) {
			case 0:
				x.From = far
			case 1:
				x.To = far
			case 2:
				x.Next = far
			case 3:
				*x = lines.Line{From: far, To: far, Next: far}
			}
		}
		nodes, e, at := Parse(b, l, r.Intn(3)-1, len(l)-r.Intn(2))
		if at < 0 || at > len(b) || e == api.OK && (at != 0 || !tree.Valid(nodes)) || e != api.OK && len(nodes) != 0 {
			t.Fatalf("%q by %v: %d at %d%s", s, l, e, at, show(nodes))
		}
	}
}

func TestAnyBytes(t *testing.T) {
	// R1: of any bytes each call ends.
	r := rand.New(rand.NewSource(20))
	for range 30000 {
		b := make([]byte, r.Intn(30))
		for i := range b {
			b[i] = byte(r.Intn(256))
			if r.Intn(2) == 0 {
				b[i] = "-: \n#&!*|>'\"[]{},a\\\r\t"[r.Intn(21)]
			}
		}
		holdWhole(t, string(b))
		n, mark, e := Key(b)
		if n < 0 || n > mark || mark > len(b) || e != api.OK && n+mark > 0 {
			t.Fatalf("%q: %d %d %d", b, n, mark, e)
		}
	}
}

func TestLong(t *testing.T) {
	// R1: texts of many lines, or long ones, end soon.
	const many = 1 << 17
	for _, r := range []struct {
		name, s string
		e       api.Errno
	}{
		{"props, each on a line", strings.Repeat("&a\n", many), api.ErrForm},
		{"props, each on a line, in a sequence", "- &a\n" + strings.Repeat("  !t\n", many) + "  b", api.ErrForm},
		{"items", strings.Repeat("- a\n", many), api.OK},
		{"empty items", strings.Repeat("-\n", many), api.OK},
		{"keys", strings.Repeat("a: b\n", many), api.OK},
		{"keys without values", strings.Repeat("a:\n", many), api.OK},
		{"sequences of one column", strings.Repeat("a:\n- b\n", many), api.OK},
		{"idle lines", strings.Repeat("# c\n\n", many), api.OK},
		{"idle lines behind many collections", strings.Repeat("- ", api.MaxDepth) + "a" + strings.Repeat("\n", many), api.OK},
		{"idle lines between items", strings.Repeat("- ", api.MaxDepth) + "a\n" + strings.Repeat("\n# c\n", many) + "- b", api.OK},
		{"rows", "|\n" + strings.Repeat(" a\n", many), api.OK},
		{"literal scalars", strings.Repeat("- |\n  a\n\n", many/4), api.OK},
		{"headers and blank lines", strings.Repeat("- >\n", many/4) + strings.Repeat("\n", many), api.OK},
		{"a long scalar", strings.Repeat("a", many), api.OK},
		{"a long scalar in quotes", "- '" + strings.Repeat("a: ", many) + "'", api.OK},
		{"dashes", strings.Repeat("- ", many), api.ErrDepth},
		{"brackets", strings.Repeat("[", many), api.ErrDepth},
		{"keys on one line", strings.Repeat("a: ", many), api.ErrForm},
		{"one below another one", strings.Repeat("-\n ", many), api.OK},
		{"blanks", "- a" + strings.Repeat(" ", many) + "\n-" + strings.Repeat(" ", many) + "b", api.OK},
		{"blanks below", "-\n" + strings.Repeat(" ", many) + "- a\n" + strings.Repeat(" ", many) + "- b", api.OK},
		{"one long flow", "- [" + strings.Repeat("a, ", many) + "b]", api.OK},
	} {
		if l, e, at := parse(r.s); e != r.e || at < 0 || at > len(r.s) || e == api.OK && !tree.Valid(l) {
			t.Errorf("%s: %d at %d", r.name, e, at)
		}
	}
}

// spare is b with bytes behind its length, in its memory.
func spare(b []byte) (out, whole []byte) {
	whole = append(bytes.Clone(b), "\n- z: 'y\n"...)
	return whole[:len(b)], whole
}

func TestMemory(t *testing.T) {
	// R4: what is handed in is neither changed nor kept, and what lies behind its length is not read.
	r := rand.New(rand.NewSource(21))
	for range 3000 {
		s, _, _ := draw(r)
		b, whole := spare([]byte(s))
		before := bytes.Clone(whole)
		all := append(lines.Split(b), lines.Line{From: 0, To: 1, Next: 1}, lines.Line{From: 1, To: 2, Next: 2})
		l := all[:len(all)-2]
		allBefore := slices.Clone(all)
		nodes, e, at := Parse(b, l, 0, len(l))
		want, wantE, wantAt := parse(s)
		if e != wantE || at != wantAt || !sameNodes(nodes, want) {
			t.Fatalf("%q: %d at %d%s", s, e, at, show(nodes))
		}
		if !bytes.Equal(whole, before) || !slices.Equal(all, allBefore) {
			t.Fatalf("%q was changed", s)
		}
		for i := range whole {
			whole[i] = '!'
		}
		clear(all)
		if !sameNodes(nodes, want) {
			t.Fatalf("%q is kept", s)
		}
		// No list within the answer lies in another one's memory.
		for i := range nodes {
			nodes[i].Kids = append(nodes[i].Kids, -1)
		}
		for i := range nodes {
			if !slices.Equal(nodes[i].Kids[:len(nodes[i].Kids)-1], want[i].Kids) {
				t.Fatalf("%q: Kids of %d%s", s, i, show(nodes))
			}
		}
	}
	for _, s := range []string{"", "-", "a", "a:", "'a", "\"a\"", "a: b"} {
		b, whole := spare([]byte(s))
		for _, behind := range []string{":", " ", "'", ": ", "\"", "a"} {
			whole = append(whole[:len(s)], behind+"          "...)
			n, mark, e := Key(b)
			wantN, wantMark, wantE := keyByRule(s)
			if n != wantN || mark != wantMark || e != wantE || Item(b) != itemByRule(s) || string(whole[:len(s)+len(behind)]) != s+behind {
				t.Errorf("%q ahead of %q: %d %d %d", s, behind, n, mark, e)
			}
		}
	}
}

func TestAskedAgain(t *testing.T) {
	// R5: what was asked ahead of it counts for nothing.
	r := rand.New(rand.NewSource(22))
	for range 2000 {
		s, _, _ := draw(r)
		first, firstE, firstAt := parse(s)
		parse("- &a\n  &b " + s)
		if l, e, at := parse(s); e != firstE || at != firstAt || !sameNodes(l, first) {
			t.Fatalf("%q: %d at %d%s", s, e, at, show(l))
		}
	}
}
