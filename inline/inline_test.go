package inline

import (
	"fmt"
	"math"
	"math/rand"
	"slices"
	"strings"
	"testing"

	"scholium/api"
	"scholium/chars"
	"scholium/double"
	"scholium/plain"
	"scholium/props"
	"scholium/schema"
	"scholium/single"
)

// eachText calls do with every text of at most most pieces.
func eachText(most int, pieces []string, do func(s string)) {
	eachLonger("", most, pieces, do)
}

func eachLonger(s string, more int, pieces []string, do func(s string)) {
	do(s)
	if more == 0 {
		return
	}
	for _, p := range pieces {
		eachLonger(s+p, more-1, pieces, do)
	}
}

func sameNode(a, b api.Node) bool {
	return a.Kind == b.Kind && a.Style == b.Style && a.Tag == b.Tag && a.Anchor == b.Anchor && a.Value == b.Value &&
		a.Start == b.Start && a.End == b.End && a.Head == b.Head && a.Mark == b.Mark && slices.Equal(a.Kids, b.Kids)
}

func sameNodes(a, b []api.Node) bool {
	return slices.EqualFunc(a, b, sameNode)
}

// show is a list of nodes with a node a line, for what a test tells.
func show(l []api.Node) string {
	text := ""
	for _, x := range l[:min(len(l), 20)] {
		text += fmt.Sprintf("\n\t%+v", x)
	}
	return text
}

// shifted is what a Take of a part gave, as it lies in the whole: by bytes more, the nodes numbered from first on.
func shifted(l []api.Node, by, first int) []api.Node {
	out := slices.Clone(l)
	for i := range out {
		out[i].Start += by
		out[i].End += by
		out[i].Head += by
		out[i].Mark += by
		out[i].Kids = slices.Clone(l[i].Kids)
		for k := range out[i].Kids {
			out[i].Kids[k] += first
		}
	}
	return out
}

func trimmed(s string) (rest string, blanks int) {
	rest = strings.TrimLeft(s, " ")
	return rest, len(s) - len(rest)
}

// takeByRule says by other means what P12.2 asks: each node is a Take of its own, put into the one around it.
func takeByRule(s string, flow bool, depth int) ([]api.Node, int, api.Errno) {
	p, n, ok := props.Take([]byte(s))
	if !ok {
		return nil, 0, api.ErrForm
	}
	rest, blanks := trimmed(s[n:])
	at := n + blanks
	x := api.Node{Anchor: p.Anchor, Start: at}
	if n > 0 {
		x.Start = 0
	}
	var below []api.Node
	size := 0
	e := api.OK
	switch {
	case strings.HasPrefix(rest, "*"):
		x.Kind = api.Alias
		x.Value, size, ok = props.TakeAlias([]byte(rest))
		ok = ok && n == 0
	case strings.HasPrefix(rest, "["), strings.HasPrefix(rest, "{"):
		x.Kind, x.Style = api.Seq, api.Flow
		if rest[0] == '{' {
			x.Kind = api.Map
		}
		below, size, e = bracketByRule(rest, x.Kind == api.Map, depth)
	default:
		x.Kind, x.Style, x.Value, size, ok = scalarByRule(rest, flow)
	}
	if e == api.OK && !ok {
		e = api.ErrForm
	}
	if e != api.OK {
		return nil, 0, e
	}
	x.End = at + size
	if x.Kind == api.Null {
		x.Start, x.End = 0, n
	}
	x.Head, x.Mark = x.Start, x.Start
	x.Tag = Tag(x.Kind, x.Style, p.Tag, x.Value)
	for i := range below {
		if below[i].Head < 0 { // a child of this node's own
			below[i].Head = -below[i].Head - 1
			x.Kids = append(x.Kids, i+1)
		}
	}
	return append([]api.Node{x}, shifted(below, at, 1)...), x.End, api.OK
}

func scalarByRule(rest string, flow bool) (kind, style int, value string, size int, ok bool) {
	switch {
	case strings.HasPrefix(rest, `"`):
		value, size, ok = double.Take([]byte(rest))
		return api.Scalar, api.Double, value, size, ok
	case strings.HasPrefix(rest, "'"):
		value, size, ok = single.Take([]byte(rest))
		return api.Scalar, api.Single, value, size, ok
	}
	size = plain.Length([]byte(rest), flow)
	if size == 0 {
		return api.Null, api.None, "", 0, true
	}
	return api.Scalar, api.Plain, rest[:size], size, true
}

// bracketByRule is what lies between the bracket that s begins with and its other half, and how many bytes these have; the Head h of each child is told as -h - 1.
func bracketByRule(s string, mapping bool, depth int) (below []api.Node, size int, e api.Errno) {
	if depth >= 64 {
		return nil, 0, api.ErrDepth
	}
	end := "]"
	if mapping {
		end = "}"
	}
	_, blanks := trimmed(s[1:])
	at := 1 + blanks
	if strings.HasPrefix(s[at:], end) {
		return nil, at + 1, api.OK
	}
	for {
		head, mark := at, -1
		if mapping {
			kind, style, value, n, ok := scalarByRule(s[at:], true)
			if !ok || kind == api.Null || n > 128 {
				return nil, 0, api.ErrForm
			}
			below = append(below, api.Node{Kind: kind, Style: style, Tag: Tag(kind, style, "", value), Value: value, Start: at, End: at + n, Head: -at - 1, Mark: at})
			_, blanks := trimmed(s[at+n:])
			at += n + blanks
			behind, ok := strings.CutPrefix(s[at:], ":")
			if !ok || behind != "" && !strings.ContainsAny(behind[:1], " ,}") {
				return nil, 0, api.ErrForm
			}
			mark = at + 1
			_, blanks = trimmed(behind)
			at += 1 + blanks
		}
		l, n, e := takeByRule(s[at:], true, depth+1)
		if e != api.OK || n == 0 && !mapping {
			return nil, 0, max(e, api.ErrForm)
		}
		l = shifted(l, at, len(below))
		if mapping {
			l[0].Head, l[0].Mark = head, mark
		}
		if n == 0 {
			l[0].Start, l[0].End = mark, mark
		}
		l[0].Head = -l[0].Head - 1
		below = append(below, l...)
		_, blanks := trimmed(s[at+n:])
		at += n + blanks
		if strings.HasPrefix(s[at:], end) {
			return below, at + 1, api.OK
		}
		if !strings.HasPrefix(s[at:], ",") {
			return nil, 0, api.ErrForm
		}
		_, blanks = trimmed(s[at+1:])
		at += 1 + blanks
	}
}

// holdsByRule holds Take, and Parse of a text on one line, against the rule.
func holdsByRule(t *testing.T, s string, flow bool, depth int) (ok bool) {
	t.Helper()
	want, wantN, wantE := takeByRule(s, flow, depth)
	got, n, e := Take([]byte(s), flow, depth)
	if !sameNodes(got, want) || n != wantN || e != wantE {
		t.Errorf("Take(%.200q, %v, %d) = %s, %d, %d, want %s, %d, %d", s, flow, depth, show(got), n, e, show(want), wantN, wantE)
	}
	if _, noText := chars.Check([]byte(s)); depth != 0 || noText != api.OK || strings.Contains(s, "\n") || strings.HasPrefix(s, "\uFEFF") {
		return e == api.OK
	}
	if wantE == api.OK && (wantN < len(s) || s == "") {
		want, wantE = nil, api.ErrForm
	}
	got, e = Parse(s, flow)
	if !sameNodes(got, want) || e != wantE {
		t.Errorf("Parse(%.200q, %v) = %s, %d, want %s, %d", s, flow, show(got), e, show(want), wantE)
	}
	return e == api.OK
}

// P12.2, P12.3: the chapter's example.
func TestExample(t *testing.T) {
	l, e := Parse(`[a, {b: 1}]`, false)
	want := []api.Node{
		{Kind: api.Seq, Style: api.Flow, Tag: "!!seq", End: 11, Kids: []int{1, 2}},
		{Kind: api.Scalar, Style: api.Plain, Tag: "!!str", Value: "a", Start: 1, End: 2, Head: 1, Mark: 1},
		{Kind: api.Map, Style: api.Flow, Tag: "!!map", Start: 4, End: 10, Head: 4, Mark: 4, Kids: []int{3, 4}},
		{Kind: api.Scalar, Style: api.Plain, Tag: "!!str", Value: "b", Start: 5, End: 6, Head: 5, Mark: 5},
		{Kind: api.Scalar, Style: api.Plain, Tag: "!!int", Value: "1", Start: 8, End: 9, Head: 5, Mark: 7},
	}
	if !sameNodes(l, want) || e != api.OK {
		t.Errorf("%s, %d", show(l), e)
	}
}

// P12.1: a tag that is written, other than `!`, is the answer, whatever the node is.
func TestTagAsWritten(t *testing.T) {
	for kind := -1; kind <= 6; kind++ {
		for style := -1; style <= 9; style++ {
			for _, tag := range []string{"!x", "!!x", "!!str", "!!int", "!!", "x", " ", "!!null", "! "} {
				if got := Tag(kind, style, tag, "1"); got != tag {
					t.Errorf("Tag(%d, %d, %q) = %q", kind, style, tag, got)
				}
			}
		}
	}
}

// P12.1: without a tag, and with `!`.
func TestTagResolved(t *testing.T) {
	values := []string{"", "1", "true", "~", "null", "1.5", ".nan", "a", "0x1F", "True ", "\xff"}
	for style := -1; style <= 9; style++ {
		for _, v := range values {
			asPlain := "!!str"
			if style == api.Plain {
				asPlain = schema.Resolve(v)
			}
			for _, c := range []struct {
				kind              int
				without, withSign string
			}{
				{api.Null, "!!null", "!!str"}, {api.Scalar, asPlain, "!!str"}, {api.Seq, "!!seq", "!!seq"}, {api.Map, "!!map", "!!map"}, {api.Alias, "", ""},
				{-1, "!!str", "!!str"}, {5, "!!str", "!!str"}, {math.MaxInt, "!!str", "!!str"}, {math.MinInt, "!!str", "!!str"},
			} {
				if got := Tag(c.kind, style, "", v); got != c.without {
					t.Errorf("Tag(%d, %d, \"\", %q) = %q, want %q", c.kind, style, v, got, c.without)
				}
				if got := Tag(c.kind, style, "!", v); got != c.withSign {
					t.Errorf("Tag(%d, %d, \"!\", %q) = %q, want %q", c.kind, style, v, got, c.withSign)
				}
			}
		}
	}
	for _, c := range [][2]string{{"1", "!!int"}, {"true", "!!bool"}, {"~", "!!null"}, {"1.5", "!!float"}, {"a", "!!str"}} {
		if got := Tag(api.Scalar, api.Plain, "", c[0]); got != c[1] {
			t.Errorf("Tag of the plain %q = %q, want %q", c[0], got, c[1])
		}
	}
}

// P12.2: nodes that are no collections, with and without props.
func TestTakeOne(t *testing.T) {
	for _, c := range []struct {
		s    string
		flow bool
		want api.Node
		n    int
	}{
		{"", false, api.Node{Tag: "!!null"}, 0},
		{"   ", false, api.Node{Tag: "!!null"}, 0},
		{"# x", false, api.Node{Tag: "!!null"}, 0},
		{"  # x", true, api.Node{Tag: "!!null"}, 0},
		{"\ta", false, api.Node{Tag: "!!null"}, 0},
		{" \ta", false, api.Node{Tag: "!!null"}, 0},
		{" &a b", false, api.Node{Tag: "!!null"}, 0},
		{" !a b", false, api.Node{Tag: "!!null"}, 0},
		{"- a", false, api.Node{Tag: "!!null"}, 0},
		{"|", false, api.Node{Tag: "!!null"}, 0},
		{"> x", false, api.Node{Tag: "!!null"}, 0},
		{"%", false, api.Node{Tag: "!!null"}, 0},
		{"---", false, api.Node{Tag: "!!null"}, 0},
		{"]", false, api.Node{Tag: "!!null"}, 0},
		{"}", true, api.Node{Tag: "!!null"}, 0},
		{", a", true, api.Node{Tag: "!!null"}, 0},
		{": a", true, api.Node{Tag: "!!null"}, 0},
		{"&a", false, api.Node{Tag: "!!null", Anchor: "a", End: 2}, 2},
		{"&a   # x", false, api.Node{Tag: "!!null", Anchor: "a", End: 2}, 2},
		{"&a \tb", false, api.Node{Tag: "!!null", Anchor: "a", End: 2}, 2},
		{"!", false, api.Node{Tag: "!!str", End: 1}, 1},
		{"!x  &a  ", false, api.Node{Tag: "!x", Anchor: "a", End: 6}, 6},
		{"!!int ]", true, api.Node{Tag: "!!int", End: 5}, 5},
		{"*a", false, api.Node{Kind: api.Alias, Value: "a", End: 2}, 2},
		{"  *a b", false, api.Node{Kind: api.Alias, Value: "a", Start: 2, End: 4, Head: 2, Mark: 2}, 4},
		{"*a-_9]", true, api.Node{Kind: api.Alias, Value: "a-_9", End: 5}, 5},
		{"a", false, api.Node{Kind: api.Scalar, Style: api.Plain, Tag: "!!str", Value: "a", End: 1}, 1},
		{"  a b  ", false, api.Node{Kind: api.Scalar, Style: api.Plain, Tag: "!!str", Value: "a b", Start: 2, End: 5, Head: 2, Mark: 2}, 5},
		{"a, b", false, api.Node{Kind: api.Scalar, Style: api.Plain, Tag: "!!str", Value: "a, b", End: 4}, 4},
		{"a, b", true, api.Node{Kind: api.Scalar, Style: api.Plain, Tag: "!!str", Value: "a", End: 1}, 1},
		{"a: b", false, api.Node{Kind: api.Scalar, Style: api.Plain, Tag: "!!str", Value: "a", End: 1}, 1},
		{"a # b", false, api.Node{Kind: api.Scalar, Style: api.Plain, Tag: "!!str", Value: "a", End: 1}, 1},
		{"-1", false, api.Node{Kind: api.Scalar, Style: api.Plain, Tag: "!!int", Value: "-1", End: 2}, 2},
		{"! 1", false, api.Node{Kind: api.Scalar, Style: api.Plain, Tag: "!!str", Value: "1", End: 3}, 3},
		{"!!float 1", false, api.Node{Kind: api.Scalar, Style: api.Plain, Tag: "!!float", Value: "1", End: 9}, 9},
		{"~", false, api.Node{Kind: api.Scalar, Style: api.Plain, Tag: "!!null", Value: "~", End: 1}, 1},
		{"&a   !b   c  d", false, api.Node{Kind: api.Scalar, Style: api.Plain, Tag: "!b", Anchor: "a", Value: "c  d", End: 14}, 14},
		{`"a\n" b`, false, api.Node{Kind: api.Scalar, Style: api.Double, Tag: "!!str", Value: "a\n", End: 5}, 5},
		{`""`, true, api.Node{Kind: api.Scalar, Style: api.Double, Tag: "!!str", End: 2}, 2},
		{`  "1"x`, false, api.Node{Kind: api.Scalar, Style: api.Double, Tag: "!!str", Value: "1", Start: 2, End: 5, Head: 2, Mark: 2}, 5},
		{`'it''s'`, false, api.Node{Kind: api.Scalar, Style: api.Single, Tag: "!!str", Value: "it's", End: 7}, 7},
		{`!!int  '1'`, true, api.Node{Kind: api.Scalar, Style: api.Single, Tag: "!!int", Value: "1", End: 10}, 10},
	} {
		l, n, e := Take([]byte(c.s), c.flow, 0)
		if !sameNodes(l, []api.Node{c.want}) || n != c.n || e != api.OK {
			t.Errorf("Take(%q, %v) = %s, %d, %d, want %+v, %d", c.s, c.flow, show(l), n, e, c.want, c.n)
		}
	}
}

// P12.2: collections; Head and Mark, and values without text.
func TestTakeCollections(t *testing.T) {
	text := func(s string, start, head, mark int) api.Node {
		return api.Node{Kind: api.Scalar, Style: api.Plain, Tag: "!!str", Value: s, Start: start, End: start + len(s), Head: head, Mark: mark}
	}
	nothing := func(head, mark int) api.Node {
		return api.Node{Tag: "!!null", Start: mark, End: mark, Head: head, Mark: mark}
	}
	seq := func(start, end int, kids ...int) api.Node {
		return api.Node{Kind: api.Seq, Style: api.Flow, Tag: "!!seq", Start: start, End: end, Head: start, Mark: start, Kids: kids}
	}
	mapping := func(start, end int, kids ...int) api.Node {
		return api.Node{Kind: api.Map, Style: api.Flow, Tag: "!!map", Start: start, End: end, Head: start, Mark: start, Kids: kids}
	}
	for _, c := range []struct {
		s    string
		want []api.Node
		n    int
	}{
		{"[]", []api.Node{seq(0, 2)}, 2},
		{"[   ] x", []api.Node{seq(0, 5)}, 5},
		{"  {}}", []api.Node{mapping(2, 4)}, 4},
		{"[  a  ,b ]", []api.Node{seq(0, 10, 1, 2), text("a", 3, 3, 3), text("b", 7, 7, 7)}, 10},
		{"[[],[a]]", []api.Node{seq(0, 8, 1, 2), seq(1, 3), seq(4, 7, 3), text("a", 5, 5, 5)}, 8},
		{"{a: b}", []api.Node{mapping(0, 6, 1, 2), text("a", 1, 1, 1), text("b", 4, 1, 3)}, 6},
		{"{ a  :   b  }", []api.Node{mapping(0, 13, 1, 2), text("a", 2, 2, 2), text("b", 9, 2, 6)}, 13},
		{"{a:}", []api.Node{mapping(0, 4, 1, 2), text("a", 1, 1, 1), nothing(1, 3)}, 4},
		{"{a:   }", []api.Node{mapping(0, 7, 1, 2), text("a", 1, 1, 1), nothing(1, 3)}, 7},
		{"{a:,b :  ,c: }", []api.Node{mapping(0, 14, 1, 2, 3, 4, 5, 6), text("a", 1, 1, 1), nothing(1, 3), text("b", 4, 4, 4), nothing(4, 7), text("c", 10, 10, 10), nothing(10, 12)}, 14},
		{"{a: {b: c}}", []api.Node{mapping(0, 11, 1, 2), text("a", 1, 1, 1), {Kind: api.Map, Style: api.Flow, Tag: "!!map", Start: 4, End: 10, Head: 1, Mark: 3, Kids: []int{3, 4}}, text("b", 5, 5, 5), text("c", 8, 5, 7)}, 11},
		{"&x  !t [a]", []api.Node{{Kind: api.Seq, Style: api.Flow, Tag: "!t", Anchor: "x", End: 10, Kids: []int{1}}, text("a", 8, 8, 8)}, 10},
		{"! {a: &y , b:c: *z}", []api.Node{{Kind: api.Map, Style: api.Flow, Tag: "!!map", End: 19, Kids: []int{1, 2, 3, 4}}, text("a", 3, 3, 3), {Tag: "!!null", Anchor: "y", Start: 6, End: 8, Head: 3, Mark: 5}, text("b:c", 11, 11, 11), {Kind: api.Alias, Value: "z", Start: 16, End: 18, Head: 11, Mark: 15}}, 19},
		{"{-: ?x}", []api.Node{mapping(0, 7, 1, 2), text("-", 1, 1, 1), text("?x", 4, 1, 3)}, 7},
		{"{a b#c: d}", []api.Node{mapping(0, 10, 1, 2), text("a b#c", 1, 1, 1), text("d", 8, 1, 7)}, 10},
	} {
		for _, flow := range []bool{false, true} {
			l, n, e := Take([]byte(c.s), flow, 0)
			if !sameNodes(l, c.want) || n != c.n || e != api.OK {
				t.Errorf("Take(%q, %v) = %s, %d, %d, want %s, %d", c.s, flow, show(l), n, e, show(c.want), c.n)
			}
		}
	}
}

// P12.2: what is of no form; R3: beside an error there is nothing.
func TestTakeErrForm(t *testing.T) {
	for _, s := range []string{
		"&a &b c", "!a !b c", "&a !b &c", "&", "& a", "&a*b", "!a! b", "!!", "!!!a", "&a,", "!a[b]", "&" + strings.Repeat("a", 33),
		"*", "* a", "*]", "&a *b", "!a *b", "&a !b *c", "*" + strings.Repeat("a", 33),
		`"`, `"a`, `"a\"`, `"\q"`, `"a` + "\n" + `"`, `'`, `'a`, `'a''`, "'a\r'", `&a "b`, `!a 'b`,
		"[", "[ ", "[a", "[a ", "[a,", "[a, ", "[,", "[ ,a]", "[a,]", "[a, ]", "[a,,b]", "[a b: c]", "[a: b]", "[a:]", "[a #b]", "[a\t]", "[\ta]", "[a]"[:2], "[a}", "[[a]", "[- a]", "[?]", "[|]", "['a' b]", `["a""b"]`, "[*a b]", "[&a *b]", "[&a,b]", "[!t]", "[a, \"b]", "[{]", "[a, {b: c]",
		"{", "{ ", "{a", "{a}", "{a }", "{a, b: c}", "{a:", "{a: ", "{a: b", "{a: b,", "{a: b, }", "{a: b,}", "{,}", "{, a: b}", "{a: b,, c: d}", "{: a}", "{:}", "{ : a}", "{a:b}", `{"a":b}`, "{'a':b}", `{"a":"b"}`, "{a:\tb}", "{\"a\":\tb}", "{a:[b]}", "{a:{}}", "{a:]}", "{a: ]}", "{a b}", "{a: b: c}", "{a: b c: d}", "{a: b #c}", "{*a: b}", "{*a : b}", "{&x a: b}", "{!x a: b}", "{! a: b}", "{[a]: b}", "{{a: b}: c}", "{[]: a}", "{? a: b}", "{- a: b}", "{a\t: b}", "{\ta: b}", "{\"a: b}", "{'a: b}", "{a #b: c}", "{a: *}", "{a: &b *c}", "{a: &b, c: d}", "{a: !b}", "{a: \"b}", "{a: [b}", "{|: a}", "{a: b]",
	} {
		for _, flow := range []bool{false, true} {
			if l, n, e := Take([]byte(s), flow, 0); len(l) != 0 || n != 0 || e != api.ErrForm {
				t.Errorf("Take(%q, %v) = %s, %d, %d, want ErrForm", s, flow, show(l), n, e)
			}
			if l, e := Parse(s, flow); len(l) != 0 || e != api.ErrForm && (e != api.ErrText || !strings.ContainsAny(s, "\r\n")) {
				t.Errorf("Parse(%q, %v) = %s, %d, want ErrForm", s, flow, show(l), e)
			}
		}
	}
}

// P12.2: a key has at most MaxKey bytes, as it is written; a value may have more.
func TestLongKeys(t *testing.T) {
	for _, c := range []struct {
		key string
		ok  bool
	}{
		{strings.Repeat("k", 128), true}, {strings.Repeat("k", 129), false}, {strings.Repeat("k", 128) + "  ", true},
		{`"` + strings.Repeat("k", 126) + `"`, true}, {`"` + strings.Repeat("k", 127) + `"`, false},
		{`"` + strings.Repeat(`\n`, 63) + `"`, true}, {`"` + strings.Repeat(`\n`, 64) + `"`, false},
		{`'` + strings.Repeat(`''`, 63) + `'`, true}, {`'` + strings.Repeat(`''`, 63) + `k'`, false},
		{strings.Repeat("é", 64), true}, {strings.Repeat("é", 65), false},
	} {
		long := strings.Repeat("v", 300)
		l, e := Parse("{ "+c.key+": "+long+"}", false)
		if c.ok && (e != api.OK || len(l) != 3 || l[1].End-l[1].Start != len(strings.TrimRight(c.key, " "))) || !c.ok && (e != api.ErrForm || len(l) != 0) {
			t.Errorf("a key of %d bytes: %d nodes, %d", len(c.key), len(l), e)
		}
		holdsByRule(t, "{"+c.key+": ["+long+"], 'x' : "+c.key+"}", false, 0)
	}
}

// P12.2: ErrDepth is met at the bracket, and what is met ahead of it counts.
func TestDepth(t *testing.T) {
	nested := func(open, close string, n int) string { return strings.Repeat(open, n) + strings.Repeat(close, n) }
	for _, c := range []struct {
		s     string
		depth int
		want  api.Errno
	}{
		{nested("[", "]", 64), 0, api.OK}, {nested("[", "]", 65), 0, api.ErrDepth},
		{nested("{a: ", "}", 64), 0, api.OK}, {nested("{a: ", "}", 65), 0, api.ErrDepth},
		{nested("[{a: ", "}]", 32), 0, api.OK}, {"[" + nested("[{a: ", "}]", 32) + "]", 0, api.ErrDepth},
		{"[]", 63, api.OK}, {"{}", 63, api.OK}, {"[]", 64, api.ErrDepth}, {"{}", 64, api.ErrDepth}, {"[]", 65, api.ErrDepth}, {"{", math.MaxInt, api.ErrDepth},
		{"[a]", 63, api.OK}, {"[[]]", 63, api.ErrDepth}, {"[a, b, [c]]", 63, api.ErrDepth}, {"{a: b, c: {d}}", 63, api.ErrDepth}, {"[[[a], b], [c]]", 61, api.OK},
		{"a", 64, api.OK}, {"*a", 99, api.OK}, {"&a !b", math.MaxInt, api.OK}, {"", 64, api.OK}, {"'a'", 65, api.OK},
		{"[,", 64, api.ErrDepth}, {"&a [", 64, api.ErrDepth}, {"  {\"", 64, api.ErrDepth}, {"[\"a, [", 63, api.ErrForm}, {"[a b: [", 63, api.ErrForm}, {"[[, \"a", 63, api.ErrDepth}, {"&a &b []", 64, api.ErrForm}, {"&a *b", 64, api.ErrForm},
		{"{[: a}", 63, api.ErrForm}, {"{{", 63, api.ErrForm}, {"{" + strings.Repeat("k", 129) + ": []}", 63, api.ErrForm}, {"{a:[]}", 63, api.ErrForm}, {"{a: [", 63, api.ErrDepth},
		{nested("[", "]", 65), -1, api.OK}, {nested("[", "]", 66), -1, api.ErrDepth},
	} {
		l, n, e := Take([]byte(c.s), false, c.depth)
		if e != c.want || (len(l) > 0) != (e == api.OK) || e != api.OK && n != 0 {
			t.Errorf("Take(%.20q, %d) = %d nodes, %d, %d, want %d", c.s, c.depth, len(l), n, e, c.want)
		}
		holdsByRule(t, c.s, false, c.depth)
	}
}

// P12.3: all of s, and ErrText ahead of all else.
func TestParse(t *testing.T) {
	full := strings.Repeat("a", api.MaxBytes)
	for _, c := range []struct {
		s    string
		flow bool
		want api.Errno
	}{
		{"", false, api.ErrForm}, {"", true, api.ErrForm}, {" ", false, api.ErrForm}, {"# x", false, api.ErrForm}, {"]", false, api.ErrForm}, {":", false, api.ErrForm},
		{"a", false, api.OK}, {"  a", false, api.OK}, {"a ", false, api.ErrForm}, {"a # x", false, api.ErrForm}, {"a: b", false, api.ErrForm}, {"a\t", false, api.ErrForm},
		{"a, b", false, api.OK}, {"a, b", true, api.ErrForm}, {"a]", false, api.OK}, {"a]", true, api.ErrForm},
		{"!t", false, api.OK}, {"&a", true, api.OK}, {"&a ", false, api.ErrForm}, {" &a", false, api.ErrForm}, {"*a", false, api.OK}, {"*a b", false, api.ErrForm},
		{"[]", true, api.OK}, {"[] ", false, api.ErrForm}, {"[]]", false, api.ErrForm}, {"{a: 1} x", false, api.ErrForm},
		{`"a"`, false, api.OK}, {`"a"b`, false, api.ErrForm}, {`'a' `, false, api.ErrForm}, {"\"a\tb\"", false, api.OK}, {"\"a\u0085b\"", false, api.OK},
		{"\n", false, api.ErrText}, {"a\n", false, api.ErrText}, {"\na", false, api.ErrText}, {"a\r\nb", false, api.ErrText}, {"a\r", false, api.ErrText}, {"\"a\nb\"", false, api.ErrText}, {"[\n]", false, api.ErrText},
		{"\xff", false, api.ErrText}, {"a\x00", false, api.ErrText}, {"'\x7f'", false, api.ErrText}, {"a\uFEFF", false, api.ErrText}, {"\uFEFFa", false, api.ErrText}, {"\uFEFF", false, api.ErrText}, {"\xEF\xBB", false, api.ErrText}, {"\xed\xa0\x80", false, api.ErrText}, {"[\x01", false, api.ErrText}, {"\"a\x1b", false, api.ErrText},
		{strings.Repeat("[", 65) + "\n", false, api.ErrText}, {strings.Repeat("[", 65), false, api.ErrDepth}, {"[" + strings.Repeat("{a: ", 64), true, api.ErrDepth},
		{full, false, api.OK}, {full + "a", false, api.ErrText}, {full[1:] + " ", false, api.ErrForm},
	} {
		l, e := Parse(c.s, c.flow)
		if e != c.want || (len(l) > 0) != (e == api.OK) {
			t.Errorf("Parse(%.20q of %d bytes, %v) = %d nodes, %d, want %d", c.s, len(c.s), c.flow, len(l), e, c.want)
		}
	}
}

// P12.2, P12.3: every short text of the signs that count.
func TestEveryShortText(t *testing.T) {
	pieces := []string{"a", " ", ":", ",", "[", "]", "{", "}", "'", `"`, "&x", "!", "*a", "#"}
	for _, flow := range []bool{false, true} {
		eachText(4, pieces, func(s string) { holdsByRule(t, s, flow, 0) })
	}
	for _, around := range [][2]string{{"[", "]"}, {"{a: ", "}"}, {"{", ": a}"}, {"{a", "b: c}"}, {"[a", "]"}} {
		eachText(4, pieces, func(s string) { holdsByRule(t, around[0]+s+around[1], false, 0) })
	}
	eachText(7, []string{"a", ": ", ", ", "[", "]", "{"}, func(s string) { holdsByRule(t, "{a: ["+s+"}", false, 62) })
}

// R1, P12.2: every byte in the places that count; Take is asked of bytes that are no text, too.
func TestEveryByte(t *testing.T) {
	for x := range 256 {
		c := string([]byte{byte(x)})
		for _, around := range [][2]string{{"", ""}, {"", " a"}, {" ", "a"}, {"a", "b"}, {"&a", " b"}, {"&a ", "b"}, {"*a", ""}, {"[", "]"}, {"[a", "b]"}, {"['a'", "]"}, {"{a", ": b}"}, {"{", "a: b}"}, {"{a:", "b}"}, {"{'a'", ": b}"}, {`{"a":`, "}"}, {"{a: ", "}"}, {"{a: b", "}"}, {"{a: b}", ""}, {`"a\`, `"`}, {"'a", "'"}} {
			holdsByRule(t, around[0]+c+around[1], x%2 == 0, x%65)
		}
	}
}

// grown is a text that Take takes in flow, on depth levels more at most; a plain one never ends in what would change what is behind it.
func grown(r *rand.Rand, depth int) string {
	gap := func() string { return strings.Repeat(" ", max(0, r.Intn(5)-2)) }
	one := func(l ...string) string { return l[r.Intn(len(l))] }
	ahead := one("", "", "", "&a ", "!t ", "!  &b  ", "&c !!str ")
	kind := r.Intn(8)
	if depth == 0 {
		kind = r.Intn(5)
	}
	switch kind {
	case 0:
		return "*name"
	case 1:
		return ahead + one(`""`, `"a\tb\"c"`, `"[,]"`)
	case 2:
		return ahead + one(`''`, `'it''s'`, `'{: }'`)
	case 3, 4:
		return ahead + one("a", "-1", "b c", "d:e", "f#g", "true", "~", "?x", ":y", "é")
	}
	var entries []string
	open, closing := "[", "]"
	if kind > 5 {
		open, closing = "{", "}"
	}
	for range r.Intn(4) {
		child := grown(r, depth-1)
		if kind > 5 {
			child = one(one("k", "k 2", `"q"`, `'s'`, "7")+gap()+": "+gap()+child, "n:", "n :"+gap(), "p: &p", "t:  !t ")
		}
		if strings.HasSuffix(child, "&p") {
			child += " "
		}
		entries = append(entries, gap()+child+gap())
	}
	return ahead + open + gap() + strings.Join(entries, ",") + closing
}

// P12.2: long texts of the form, and such with a fault in them.
func TestGrownTexts(t *testing.T) {
	r := rand.New(rand.NewSource(12))
	signs := " :,[]{}'\"&!*#a\t"
	taken := 0
	for range 20000 {
		s := grown(r, 5)
		if holdsByRule(t, s, true, 0) {
			taken++
		} else {
			t.Errorf("%q is not taken", s)
		}
		holdsByRule(t, s, r.Intn(2) == 0, 60+r.Intn(5))
		b := []byte(s)
		b[r.Intn(len(b))] = signs[r.Intn(len(signs))]
		holdsByRule(t, string(b), true, 0)
		at := r.Intn(len(s))
		holdsByRule(t, s[:at], false, 0)
		holdsByRule(t, s[:at]+string(signs[r.Intn(len(signs))])+s[at:], false, r.Intn(66))
	}
	if taken < 20000 {
		t.Error("texts taken:", taken)
	}
}

// P12.2: the nodes are a tree, each node ahead of those below it, and each one's text, taken alone, is the tree below it.
func TestTreeAndTexts(t *testing.T) {
	r := rand.New(rand.NewSource(13))
	for range 3000 {
		s := grown(r, 5)
		l, _, _ := Take([]byte(s), true, 0)
		next := 1
		for i, x := range l {
			if i > 0 && x.Start == x.End {
				if x.Kind != api.Null || x.Start != x.Mark || s[x.Mark-1] != ':' {
					t.Fatalf("%q: node %d has no text: %+v", s, i, x)
				}
				continue
			}
			part, n, e := Take([]byte(s[x.Start:x.End]), true, 0)
			if e != api.OK || n != x.End-x.Start {
				t.Fatalf("%q: the text of node %d is %q", s, i, s[x.Start:x.End])
			}
			part = shifted(part, x.Start, i)
			part[0].Head, part[0].Mark = x.Head, x.Mark
			if !sameNodes(part, l[i:i+len(part)]) {
				t.Fatalf("%q: node %d alone is %s, not %s", s, i, show(part), show(l[i:i+len(part)]))
			}
		}
		walk(l, 0, &next, t)
		if next != len(l) {
			t.Fatalf("%q: %d nodes, %d met", s, len(l), next)
		}
	}
}

func walk(l []api.Node, at int, next *int, t *testing.T) {
	for _, k := range l[at].Kids {
		if k != *next {
			t.Fatalf("Kid %d where %d comes next", k, *next)
		}
		*next++
		walk(l, k, next, t)
	}
}

// R1: long and deep texts are answered as short ones.
func TestLong(t *testing.T) {
	const many = 1 << 15
	wide := "[" + strings.Repeat("a,", many) + "a]"
	if l, n, e := Take([]byte(wide), false, 0); len(l) != many+2 || n != len(wide) || e != api.OK || len(l[0].Kids) != many+1 {
		t.Errorf("a wide sequence: %d nodes, %d, %d", len(l), n, e)
	}
	pairs := "{" + strings.Repeat("a:,", many) + "a:}"
	if l, n, e := Take([]byte(pairs), true, 63); len(l) != 2*many+3 || n != len(pairs) || e != api.OK || l[2*many+2].Mark != len(pairs)-1 {
		t.Errorf("a wide mapping: %d nodes, %d, %d", len(l), n, e)
	}
	deep := strings.Repeat("[{a: ", many)
	if l, n, e := Take([]byte(deep), false, 0); len(l) != 0 || n != 0 || e != api.ErrDepth {
		t.Errorf("a deep text: %d nodes, %d, %d", len(l), n, e)
	}
	// A depth below 0 lets more stand in one another, as many as any text may have.
	deep += strings.Repeat("}]", many)
	if l, n, e := Take([]byte(deep), false, math.MinInt); len(l) != 3*many+1 || n != len(deep) || e != api.OK {
		t.Errorf("a deep text from far below: %d nodes, %d, %d", len(l), n, e)
	}
	for _, s := range []string{strings.Repeat(" ", many), strings.Repeat("a ", many), strings.Repeat("!", many), `"` + strings.Repeat(`\"`, many), "*" + strings.Repeat("a", many), "[" + strings.Repeat(" ", many)} {
		holdsByRule(t, s, false, 0)
	}
}

// R4: what is handed in is neither changed nor kept, and what lies behind its length is not read.
func TestMemory(t *testing.T) {
	for _, all := range []string{"&a !bc [d, {e: f}]", "{ab: , cd: \"e\\n\"} x", "*abc", "  'it''s'", "{a:}"} {
		for most := range len(all) + 1 {
			memory := []byte(all)
			b := memory[:most]
			want, wantN, wantE := takeByRule(all[:most], true, 0)
			l, n, e := Take(b, true, 0)
			if string(memory) != all {
				t.Fatalf("%q became %q", all, memory)
			}
			for i := range memory {
				memory[i] = '?'
			}
			if !sameNodes(l, want) || n != wantN || e != wantE {
				t.Errorf("%q of %q: %s, %d, %d", all[:most], all, show(l), n, e)
			}
		}
	}
}

// R4: the lists of an answer share no memory; R5: asked again the answers are the same.
func TestAskedAgain(t *testing.T) {
	const s = "[[a, b, c], {d: e, f: [g]}, []]"
	want, _, _ := takeByRule(s, false, 0)
	for range 3 {
		first, _ := Parse(s, false)
		second, _ := Parse(s, false)
		for i := range first {
			first[i].Kids = append(first[i].Kids[:cap(first[i].Kids)], -1)
			for k := range first[i].Kids {
				first[i].Kids[k] = -1
			}
			first[i].Tag = "?"
		}
		if !sameNodes(second, want) {
			t.Errorf("an answer changes with another: %s", show(second))
		}
		third, _ := Parse(s, false)
		for i := range third {
			kids := third[i].Kids[:cap(third[i].Kids)]
			for k := range kids {
				kids[k] += 1000
			}
			for k := range kids {
				kids[k] -= 1000
			}
			if !sameNodes(third, want) {
				t.Errorf("lists within an answer share memory")
			}
		}
	}
	if l, n, e := Take(nil, false, 0); !sameNodes(l, []api.Node{{Tag: "!!null"}}) || n != 0 || e != api.OK {
		t.Errorf("nil is not as the empty list: %s, %d, %d", show(l), n, e)
	}
}
