package stream

import (
	"bytes"
	"fmt"
	"math/rand"
	"regexp"
	"slices"
	"strings"
	"testing"

	"scholium/api"
	"scholium/block"
	"scholium/chars"
	"scholium/check"
	"scholium/lines"
	"scholium/tree"
)

func sameNode(a, b api.Node) bool {
	return a.Kind == b.Kind && a.Style == b.Style && a.Tag == b.Tag && a.Anchor == b.Anchor && a.Value == b.Value &&
		a.Start == b.Start && a.End == b.End && a.Head == b.Head && a.Mark == b.Mark && slices.Equal(a.Kids, b.Kids)
}

func sameDoc(a, b Doc) bool {
	return a.First == b.First && a.End == b.End && a.Marked == b.Marked && slices.EqualFunc(a.Nodes, b.Nodes, sameNode)
}

func sameDocs(a, b []Doc) bool {
	return slices.EqualFunc(a, b, sameDoc)
}

// show is a short form of documents: their lines, whether they are marked, and each node's tag and value.
func show(docs []Doc) string {
	var out []string
	for _, d := range docs {
		text := fmt.Sprintf("%d-%d", d.First, d.End)
		if d.Marked {
			text += " marked"
		}
		for _, x := range d.Nodes {
			text += " " + x.Tag
			if x.Value != "" {
				text += "=" + x.Value
			}
		}
		out = append(out, text)
	}
	return strings.Join(out, "; ")
}

func TestExample(t *testing.T) {
	// P16.1: Load of nothing: no documents.
	for _, b := range [][]byte{nil, {}} {
		if docs, e, at := Load(b); len(docs) != 0 || e != api.OK || at != 0 {
			t.Error(docs, e, at)
		}
	}
}

// P16.1: which runs of lines are documents.
func TestLoadRuns(t *testing.T) {
	for _, r := range []struct{ s, want string }{
		// Ahead of all markers: a run is one, if it has a line that is not idle.
		{"\n", ""}, {"  \n\n   ", ""}, {"# a", ""}, {"  # a\n#b\n\n", ""}, {"\xEF\xBB\xBF", ""}, {"\xEF\xBB\xBF# a\n", ""},
		{"a", "0-1 !!str=a"}, {"# c\na\n", "0-2 !!str=a"}, {"\n\na\n\n# c\n", "0-5 !!str=a"}, {"a #", "0-1 !!str=a"},
		{"!!str", "0-1 !!str"}, {"a:\n", "0-1 !!map !!str=a !!null"}, {"''", "0-1 !!str"},
		{"# c\n---\na", "2-3 marked !!str=a"}, {"\n---\na", "2-3 marked !!str=a"}, {"a\n---\nb", "0-1 !!str=a; 2-3 marked !!str=b"},
		// Behind a `---` each is one.
		{"---", "1-1 marked !!null"}, {"---\n", "1-1 marked !!null"}, {"---\n\n", "1-2 marked !!null"}, {"---\n# c", "1-2 marked !!null"},
		{"---\n---", "1-1 marked !!null; 2-2 marked !!null"}, {"---\n---\n---\n", "1-1 marked !!null; 2-2 marked !!null; 3-3 marked !!null"},
		{"---\n# c\n---\n  \n", "1-2 marked !!null; 3-4 marked !!null"}, {"--- # c\na\n--- #\nb", "1-2 marked !!str=a; 3-4 marked !!str=b"},
		{"---  \na", "1-2 marked !!str=a"}, {"---\r\na\r\n", "1-2 marked !!str=a"}, {"\xEF\xBB\xBF---\na", "1-2 marked !!str=a"},
		// Behind a `...` a run is one, if it has a line that is not idle.
		{"...", ""}, {"...\n", ""}, {"...\n...\n", ""}, {"...\n# c\n", ""}, {"... # c\n\n...\n", ""}, {"...\na", "1-2 !!str=a"},
		{"a\n...", "0-1 !!str=a"}, {"a\n...\n# c\n", "0-1 !!str=a"}, {"a\n...\nb", "0-1 !!str=a; 2-3 !!str=b"}, {"a\n...\n# c\nb\n", "0-1 !!str=a; 2-4 !!str=b"},
		{"---\n...", "1-1 marked !!null"}, {"---\n...\n...\na", "1-1 marked !!null; 3-4 !!str=a"}, {"---\n...\n---\n", "1-1 marked !!null; 3-3 marked !!null"},
		{"...\n---\n...\n---", "2-2 marked !!null; 4-4 marked !!null"}, {"a\n...\n\n---\nb\n...\nc", "0-1 !!str=a; 4-5 marked !!str=b; 6-7 !!str=c"},
		{"\xEF\xBB\xBF...\r\n", ""}, {"...   \na", "1-2 !!str=a"},
		// Markers end what is over lines, and cut through nothing that is on one.
		{"a: |\n x\n---\nb", "0-2 !!map !!str=a !!str=x\n; 3-4 marked !!str=b"}, {"|\n---\n", "0-1 !!str; 2-2 marked !!null"},
		{"a:\n---\n- b", "0-1 !!map !!str=a !!null; 2-3 marked !!seq !!str=b"}, {"a:\n...\n- b", "0-1 !!map !!str=a !!null; 2-3 !!seq !!str=b"},
		{"!!str\n---\na", "0-1 !!str; 2-3 marked !!str=a"}, {"|\n  ---\n  ...\n", "0-3 !!str=---\n...\n"}, {"'---'", "0-1 !!str=---"},
	} {
		docs, e, at := Load([]byte(r.s))
		if show(docs) != r.want || e != api.OK || at != 0 {
			t.Errorf("%q: %s, %d, %d", r.s, show(docs), e, at)
		}
	}
}

// P16.1: the nodes of each document are block.Parse's, with places from b's beginning.
func TestLoadNodes(t *testing.T) {
	docs, e, at := Load([]byte("\xEF\xBB\xBFa: 1 # c\r\n--- # d\r\n...\r\n\r\n- &b x\r\n---\r\n# e"))
	want := []Doc{
		{First: 0, End: 1, Nodes: []api.Node{
			{Kind: api.Map, Style: api.Block, Tag: "!!map", Start: 3, End: 7, Head: 3, Mark: 3, Kids: []int{1, 2}},
			{Kind: api.Scalar, Style: api.Plain, Tag: "!!str", Value: "a", Start: 3, End: 4, Head: 3, Mark: 3},
			{Kind: api.Scalar, Style: api.Plain, Tag: "!!int", Value: "1", Start: 6, End: 7, Head: 3, Mark: 5},
		}},
		{First: 2, End: 2, Marked: true, Nodes: []api.Node{{Kind: api.Null, Tag: "!!null", Start: 22, End: 22, Head: 22, Mark: 22}}},
		{First: 3, End: 5, Nodes: []api.Node{
			{Kind: api.Seq, Style: api.Block, Tag: "!!seq", Start: 29, End: 35, Head: 29, Mark: 29, Kids: []int{1}},
			{Kind: api.Scalar, Style: api.Plain, Tag: "!!str", Anchor: "b", Value: "x", Start: 31, End: 35, Head: 29, Mark: 30},
		}},
		{First: 6, End: 7, Marked: true, Nodes: []api.Node{{Kind: api.Null, Tag: "!!null", Start: 42, End: 42, Head: 42, Mark: 42}}},
	}
	if !sameDocs(docs, want) || e != api.OK || at != 0 {
		t.Errorf("%+v %d %d", docs, e, at)
	}
}

// P16.1: the errors, and which is told where there are several.
func TestLoadErrors(t *testing.T) {
	for _, r := range []struct {
		s string
		e api.Errno
	}{
		// A line that begins as a marker, and is none.
		{"--- a", api.ErrForm}, {"... a", api.ErrForm}, {"---\t", api.ErrForm}, {"...\t# c", api.ErrForm}, {"---  \t", api.ErrForm}, {"a\n--- b\n", api.ErrForm},
		{"|\n x\n... y", api.ErrForm}, {"---\n---\n--- |", api.ErrForm}, {"--- a: b", api.ErrForm}, {"\xEF\xBB\xBF--- a", api.ErrForm},
		// block.Parse's error.
		{"[", api.ErrForm}, {"a\nb", api.ErrForm}, {"---\na\nb", api.ErrForm}, {"---a", api.ErrForm}, {"...a", api.ErrForm}, {"---#", api.ErrForm}, {" ---", api.ErrForm}, {"\ta", api.ErrForm},
		{"...\n\t", api.ErrForm}, {"a\n...\n%b", api.ErrForm}, {"---\n" + strings.Repeat("- ", api.MaxDepth+1), api.ErrDepth}, {"a: |\nx", api.ErrForm},
		{"\t", api.ErrForm}, {"\t# c", api.ErrForm}, {"\n \t\n", api.ErrForm},
		// check.Check's error.
		{"*a", api.ErrAlias}, {"- *a\n- &a b", api.ErrAlias}, {"- &a b\n- &a c", api.ErrTwice}, {"a: 1\na: 2", api.ErrTwice}, {"{a, a}", api.ErrForm}, {"{a: , a: }", api.ErrTwice},
		// Each document has its own anchors and keys.
		{"--- # c\n&a b\n---\n*a", api.ErrAlias}, {"&a b\n...\n*a", api.ErrAlias}, {"---\n*a\n---\n&a b", api.ErrAlias},
		// The order: chars.Check, all markers, then document by document its form and what Check asks.
		{"--- a\n\x00", api.ErrText}, {"[\n\x00", api.ErrText}, {"*a\n\xFF", api.ErrText}, {"*a\n--- b", api.ErrForm}, {"a: 1\na: 2\n... b", api.ErrForm},
		{strings.Repeat("- ", api.MaxDepth+1) + "\n--- a", api.ErrForm},
		{"*a\n---\n[", api.ErrAlias}, {"a: 1\na: 2\n---\n[", api.ErrTwice}, {"[\n---\n*a", api.ErrForm}, {"*a\n---\na: 1\na: 2", api.ErrAlias}, {"a: 1\na: 2\n---\n*a", api.ErrTwice},
		{"- *a\n- [", api.ErrForm}, {"- *a\n-" + strings.Repeat(" -", api.MaxDepth), api.ErrDepth}, {"---\n---\n*a\n---\n]", api.ErrAlias},
	} {
		docs, e, at := Load([]byte(r.s))
		if docs != nil || e != r.e || at < 0 || at > len(r.s) {
			t.Errorf("%q: %s, %d, %d", r.s, show(docs), e, at)
		}
	}
}

// P16.1: documents that seem to have each other's anchors and keys have none of them.
func TestLoadApart(t *testing.T) {
	for _, s := range []string{"&a b\n---\n&a b", "a: 1\n---\na: 2", "&a b\n...\n&a c", "[&a b, *a]\n---\n[&a b, *a]", "a: 1\n...\na: 1\n"} {
		if docs, e, at := Load([]byte(s)); len(docs) != 2 || e != api.OK || at != 0 {
			t.Errorf("%q: %s, %d, %d", s, show(docs), e, at)
		}
	}
}

// P16.1: chars.Check's error has chars.Check's place.
func TestLoadErrText(t *testing.T) {
	for _, r := range []struct {
		s  string
		at int
	}{
		{"\x00", 0}, {"a\x00", 1}, {"a: b\r", 4}, {"a\rb", 1}, {"\xEF\xBB\xBF\xEF\xBB\xBF", 3}, {"--- \x7F", 4}, {"--- a\n\xFF", 6}, {"[\n{\n\xC3", 4}, {"a\n---\n\uFFFE", 6},
	} {
		if docs, e, at := Load([]byte(r.s)); docs != nil || e != api.ErrText || at != r.at {
			t.Errorf("%q: %s, %d, %d", r.s, show(docs), e, at)
		}
	}
	for _, c := range []byte{'a', 0, '\n', '-'} {
		b := bytes.Repeat([]byte{c}, api.MaxBytes+1)
		if docs, e, at := Load(b); docs != nil || e != api.ErrLimit || at != api.MaxBytes {
			t.Error(show(docs), e, at)
		}
	}
}

var (
	beginLine = regexp.MustCompile(`^---( *| +#.*)\r?\n?$`)
	endLine   = regexp.MustCompile(`^\.\.\.( *| +#.*)\r?\n?$`)
	badLine   = regexp.MustCompile(`^(---|\.\.\.)[ \t]`)
	idleLine  = regexp.MustCompile(`^ *(#.*)?\r?\n?$`)
)

// part is a document by the second rule: its lines with their breaks, where they begin, and the first one's number.
type part struct {
	rows   []string
	from   int
	first  int
	marked bool
}

// parts is the documents of s, a text, by the second rule; false: a line is no marker, though it begins as one.
func parts(s string) (all []part, ok bool) {
	at := 0
	if strings.HasPrefix(s, "\xEF\xBB\xBF") {
		s, at = s[3:], 3
	}
	rows := strings.SplitAfter(s, "\n")
	if rows[len(rows)-1] == "" {
		rows = rows[:len(rows)-1]
	}
	all = []part{{from: at}}
	for i, row := range rows {
		at += len(row)
		switch {
		case beginLine.MatchString(row):
			all = append(all, part{from: at, first: i + 1, marked: true})
		case endLine.MatchString(row):
			all = append(all, part{from: at, first: i + 1})
		case badLine.MatchString(row):
			return nil, false
		default:
			all[len(all)-1].rows = append(all[len(all)-1].rows, row)
		}
	}
	return slices.DeleteFunc(all, func(p part) bool {
		return !p.marked && !slices.ContainsFunc(p.rows, func(row string) bool { return !idleLine.MatchString(row) })
	}), true
}

// loadByRule is a second Load: each document is parsed as a text of its own, and put where it stood.
func loadByRule(s string) ([]Doc, api.Errno) {
	if _, e := chars.Check([]byte(s)); e != api.OK {
		return nil, e
	}
	all, ok := parts(s)
	if !ok {
		return nil, api.ErrForm
	}
	var docs []Doc
	for _, p := range all {
		b := []byte(strings.Join(p.rows, ""))
		nodes, e, _ := block.Parse(b, lines.Split(b), 0, len(p.rows))
		if e == api.OK {
			e, _ = check.Check(nodes)
		}
		if e != api.OK {
			return nil, e
		}
		for i := range nodes {
			nodes[i].Start += p.from
			nodes[i].End += p.from
			nodes[i].Head += p.from
			nodes[i].Mark += p.from
		}
		docs = append(docs, Doc{First: p.first, End: p.first + len(p.rows), Marked: p.marked, Nodes: nodes})
	}
	return docs, api.OK
}

// holdRule holds Load of s against the second rule, and what must be so of every answer; ok: s is taken.
func holdRule(t *testing.T, s string) (docs []Doc, ok bool) {
	t.Helper()
	docs, e, at := Load([]byte(s))
	want, wantError := loadByRule(s)
	if !sameDocs(docs, want) || e != wantError {
		t.Fatalf("%q: %s, %d, want %s, %d", s, show(docs), e, show(want), wantError)
	}
	// T1: of any bytes documents or an error, whose place is from 0 to their length.
	if e == api.OK && at != 0 || at < 0 || at > len(s) || e != api.OK && docs != nil {
		t.Fatalf("%q: %s, %d, %d", s, show(docs), e, at)
	}
	// P16.2, T2: Print of what Load takes is it.
	if e == api.OK && string(Print(docs, []byte(s))) != s {
		t.Fatalf("%q: Print: %q", s, Print(docs, []byte(s)))
	}
	count := len(lines.Split([]byte(s)))
	before := 0
	for _, d := range docs {
		if d.First < before || d.End < d.First || d.End > count || !tree.Valid(d.Nodes) {
			t.Fatalf("%q: %s", s, show(docs))
		}
		before = d.End
		if d.Marked && d.First == 0 {
			t.Fatalf("%q: marked by nothing", s)
		}
	}
	return docs, e == api.OK
}

// eachText is each list of at most most of the pieces, as one text.
func eachText(s string, most int, pieces []string, do func(s string)) {
	do(s)
	if most == 0 {
		return
	}
	for _, p := range pieces {
		eachText(s+p, most-1, pieces, do)
	}
}

func TestEveryShortText(t *testing.T) {
	for _, r := range []struct {
		most   int
		pieces []string
	}{
		{9, []string{"-", "\n", " "}},
		{7, []string{"---", "...", "\n", " ", "#"}},
		{6, []string{"---", "...", "\n", "\r\n", " ", "\t", "#", "a"}},
		{5, []string{"-", "--", ".", "..", "---", "\r", "\n", " ", "a", ":", "#", "\xEF\xBB\xBF", "\x00"}},
	} {
		taken, all := 0, 0
		eachText("", r.most, r.pieces, func(s string) {
			all++
			if _, ok := holdRule(t, s); ok {
				taken++
			}
		})
		if taken == 0 || taken == all {
			t.Error(r.pieces, taken, all)
		}
	}
}

func TestEveryFewLines(t *testing.T) {
	rows := []string{"---\n", "--- # c\n", "--- x\n", "...\n", "...  \n", "...\tx\n", "# c\n", "\n", "  \n", "a\n", "b: 1\n", "- &a c\n", "- *a\n", "|\n", " x\n", "[\n", "!!str\n", "---\r\n", "... #\r\n", "---"}
	taken, many := 0, 0
	eachText("", 4, rows, func(s string) {
		docs, ok := holdRule(t, s)
		if ok {
			taken++
		}
		if len(docs) > 2 {
			many++
		}
	})
	if taken == 0 || many == 0 {
		t.Error(taken, many)
	}
}

// P16.1: every byte behind a marker's sign, ahead of it, and in a line of its own.
func TestEveryByte(t *testing.T) {
	for c := range 256 {
		x := string([]byte{byte(c)})
		for _, s := range []string{x, "---" + x, "..." + x, x + "---", "--" + x, ".." + x, "--- " + x, "... " + x, "---" + x + " #", "a\n" + x + "\n---\n" + x, "...\n" + x, "...\n " + x + "a"} {
			holdRule(t, s)
		}
	}
}

// drawText is a stream of some documents and markers, most of them without a fault.
func drawText(r *rand.Rand) string {
	one := func(l ...string) string { return l[r.Intn(len(l))] }
	end := one("\n", "\r\n")
	text := one("", "", "", "\xEF\xBB\xBF")
	for range r.Intn(7) {
		text += one("---", "---", "...", "--- # c", "...  ", "# c", "  # ---", "")
		text += end
		for range r.Intn(3) {
			text += one("", "# c", "  ", "    # c") + end
		}
		if r.Intn(3) > 0 {
			text += drawDocument(r, end)
		}
	}
	if r.Intn(3) == 0 {
		text = strings.TrimSuffix(text, end)
	}
	return text
}

func drawDocument(r *rand.Rand, end string) string {
	one := func(l ...string) string { return l[r.Intn(len(l))] }
	rows := one("a", "a: b # c", "- x", "- &a x/- *a", "k:/- 1/- 2/l: [1, {m: n}]", "|/  text//  more", "&r/- x/- *r", "- >-/ x/ y//", "- >-/  x/  y//- |+///", "!!str", "{a: 1, 'b': \"c\"}",
		"a: |2/   ---/  .../b: ''", "- - - a/    - b/  - c", "a:/  b:/    c: 1/  d:/- no", "*a", "a: 1/a: 2", "- &a/- &a", "a: [", "x/y", "'a/b'", "k: v/---a", "- --- /- ...")
	return strings.ReplaceAll(rows, "/", end) + end
}

func TestDrawnTexts(t *testing.T) {
	r := rand.New(rand.NewSource(16))
	taken, most := 0, 0
	for range 40000 {
		docs, ok := holdRule(t, drawText(r))
		if ok {
			taken++
		}
		most = max(most, len(docs))
	}
	if taken < 8000 || most < 5 {
		t.Error(taken, most)
	}
}

// T1: of any bytes Load ends, with documents or an error.
func TestAnyBytes(t *testing.T) {
	r := rand.New(rand.NewSource(1))
	for range 20000 {
		b := make([]byte, r.Intn(40))
		r.Read(b)
		holdRule(t, string(b))
	}
	signs := []byte("---...\n\n\r #ab:[]{},'\"|>&*!0 \t%")
	for range 60000 {
		b := make([]byte, r.Intn(40))
		for i := range b {
			b[i] = signs[r.Intn(len(signs))]
		}
		holdRule(t, string(b))
	}
}

// P16.1: texts of up to MaxBytes, of many documents, many lines, or one.
func TestLong(t *testing.T) {
	for _, r := range []struct {
		piece string
		docs  func(n int) int
	}{
		{"---\n", func(n int) int { return n }},
		{"...\n", func(n int) int { return 0 }},
		{"a\n...\n", func(n int) int { return n }},
		{"a: b\n---\n", func(n int) int { return n + 1 }},
		{"---\n...\n", func(n int) int { return n }},
		{"---\n|\n  a\n", func(n int) int { return n }},
		{"\n", func(n int) int { return 0 }},
		{"# c\n", func(n int) int { return 0 }},
		{"- a\n", func(n int) int { return 1 }},
		{"- &a\n---\n", func(n int) int { return n + 1 }},
	} {
		n := api.MaxBytes / len(r.piece)
		s := strings.Repeat(r.piece, n)
		docs, e, at := Load([]byte(s))
		if len(docs) != r.docs(n) || e != api.OK || at != 0 {
			t.Errorf("%q: %d documents, %d, %d", r.piece, len(docs), e, at)
		}
		if want, _ := loadByRule(s); !sameDocs(docs, want) {
			t.Errorf("%q: not as the rule has it", r.piece)
		}
		if string(Print(docs, []byte(s))) != s {
			t.Errorf("%q: Print", r.piece)
		}
	}
}

// P16.1: as many collections as may be in one another, in each document.
func TestDeep(t *testing.T) {
	deep := strings.Repeat("- ", api.MaxDepth) + "a\n"
	if docs, e, at := Load([]byte(deep + "---\n" + deep)); len(docs) != 2 || e != api.OK || at != 0 {
		t.Error(len(docs), e, at)
	}
	for _, s := range []string{"- " + deep, deep + "---\n- " + deep, "- " + deep + "---\n" + deep, "---\n" + strings.Repeat("[", api.MaxDepth+1)} {
		if docs, e, at := Load([]byte(s)); docs != nil || e != api.ErrDepth || at < 0 || at > len(s) {
			t.Errorf("%q: %d %d %d", s, len(docs), e, at)
		}
	}
}

// copied is docs in memory of its own.
func copied(docs []Doc) []Doc {
	out := slices.Clone(docs)
	for i := range out {
		out[i].Nodes = slices.Clone(out[i].Nodes)
		for j := range out[i].Nodes {
			x := &out[i].Nodes[j]
			x.Kids = slices.Clone(x.Kids)
			x.Tag, x.Anchor, x.Value = strings.Clone(x.Tag), strings.Clone(x.Anchor), strings.Clone(x.Value)
		}
	}
	return out
}

// scratch writes over all that docs hold, and over what lies behind their lengths.
func scratch(docs []Doc) {
	docs = docs[:cap(docs)]
	for i := range docs {
		nodes := docs[i].Nodes[:cap(docs[i].Nodes)]
		for j := range nodes {
			kids := nodes[j].Kids[:cap(nodes[j].Kids)]
			for k := range kids {
				kids[k] = -9
			}
			nodes[j] = api.Node{Value: "scratched"}
		}
		docs[i] = Doc{First: -9}
	}
}

// R4: what is handed in is not changed, not kept, and not read behind its length; each answer is new memory.
func TestMemory(t *testing.T) {
	texts := []string{"", "a", "---\n", "a: &x [b, *x]\n---\n- {c: d}\n- |\n  e\n...\n# f\n", "\xEF\xBB\xBF--- # x\r\na: b\r\n...\r\n", "--- a", "*a", "[", "a\x00"}
	for _, s := range texts {
		for _, behind := range []string{"\n---\n[", "\n- x\xFF\n--- x", "   # c", "a", "\r\n"} {
			whole := []byte(s + behind)
			b := whole[:len(s)]
			docs, e, at := Load(b)
			want, wantError := loadByRule(s)
			if !sameDocs(docs, want) || e != wantError || at > len(s) || string(whole) != s+behind {
				t.Errorf("%q %q: %s, %d, %d, %q", s, behind, show(docs), e, at, whole)
			}
			printed := Print(docs, b)
			if string(printed) != s || string(whole) != s+behind {
				t.Errorf("%q %q: Print %q, %q", s, behind, printed, whole)
			}
			kept := copied(docs)
			again, _, _ := Load(b)
			scratch(again)
			for i := range whole {
				whole[i] = 'z'
			}
			if !sameDocs(docs, kept) || string(printed) != s {
				t.Errorf("%q: shared: %s, %q", s, show(docs), printed)
			}
		}
	}
}

// R4: no two lists of an answer are the same memory.
func TestOwnLists(t *testing.T) {
	s := []byte("- [a, b]\n- {c: d}\n---\n- e: f\n...\n- g\n")
	docs, _, _ := Load(s)
	want := copied(docs)
	for i := range docs {
		for j := range docs[i].Nodes {
			// What is put behind one list's end must be in no other list.
			_ = append(docs[i].Nodes[j].Kids, -1, -1, -1)
		}
		_ = append(docs[i].Nodes, api.Node{Value: "behind"}, api.Node{Value: "behind"})
	}
	_ = append(docs, Doc{First: -1})
	if !sameDocs(docs, want) {
		t.Error(show(docs), show(want))
	}
}

// P16.2: Print is b, in new memory, whatever its documents are.
func TestPrint(t *testing.T) {
	for _, s := range []string{"", "a", "---\n...\n", "\xEF\xBB\xBF\r\n# c", "- a\n---\n- b\n"} {
		b := []byte(s)
		docs, _, _ := Load(b)
		kept := copied(docs)
		p := Print(docs, b)
		if string(p) != s || !sameDocs(docs, kept) {
			t.Errorf("%q: %q", s, p)
		}
		p = p[:cap(p)]
		for i := range p {
			p[i] = 'z'
		}
		if string(b) != s || string(Print(docs, b)) != s {
			t.Errorf("%q: Print shares its memory", s)
		}
	}
	if p := Print(nil, nil); len(p) != 0 {
		t.Errorf("%q", p)
	}
}

// R1: Print of documents that are not b's ends as well.
func TestPrintOfOthers(t *testing.T) {
	for _, docs := range [][]Doc{nil, {}, {{First: -1, End: 99}}, {{Nodes: []api.Node{{Kids: []int{5}, Start: -3}}}}} {
		if p := Print(docs, []byte("a\n")); string(p) != "a\n" {
			t.Errorf("%v: %q", docs, p)
		}
	}
}

// R5: asked again, the answer is the same, whatever was asked between.
func TestAskedAgain(t *testing.T) {
	r := rand.New(rand.NewSource(5))
	for range 200 {
		b := []byte(drawText(r))
		first, firstError, firstAt := Load(b)
		Load([]byte("&a b\n---\nc: d"))
		again, e, at := Load(b)
		if !sameDocs(first, again) || e != firstError || at != firstAt {
			t.Errorf("%q: %s, then %s", b, show(first), show(again))
		}
	}
}
