package lines

import (
	"bytes"
	"math"
	"slices"
	"strings"
	"testing"
)

func sameLines(t *testing.T, s string, want ...Line) {
	t.Helper()
	if got := Split([]byte(s)); !slices.Equal(got, want) {
		t.Errorf("Split(%q): %v, want %v", s, got, want)
	}
}

// eachText calls do with every text of at most most pieces.
func eachText(most int, pieces []string, do func(s string)) {
	level := []string{""}
	for range most + 1 {
		var longer []string
		for _, s := range level {
			do(s)
			for _, p := range pieces {
				longer = append(longer, s+p)
			}
		}
		level = longer
	}
}

// splitByRule says by other means what P2.1 asks of Split.
func splitByRule(s string) []Line {
	from := len(s) - len(strings.TrimPrefix(s, "\xef\xbb\xbf"))
	var all []Line
	for _, row := range strings.SplitAfter(s[from:], "\n") {
		if row == "" {
			continue
		}
		body := strings.TrimSuffix(row, "\n")
		if body != row {
			body = strings.TrimSuffix(body, "\r")
		}
		all = append(all, Line{from, from + len(body), from + len(row)})
		from += len(row)
	}
	return all
}

// P2.1
func TestSplitOfExamples(t *testing.T) {
	sameLines(t, "a\r\n", Line{0, 1, 3})
	sameLines(t, "")
	sameLines(t, "a", Line{0, 1, 1})
	sameLines(t, "a\n", Line{0, 1, 2})
	sameLines(t, "a: 1 # x\n  b\n", Line{0, 8, 9}, Line{9, 12, 13})
	sameLines(t, "a\nb", Line{0, 1, 2}, Line{2, 3, 3})
	sameLines(t, "\n", Line{0, 0, 1})
	sameLines(t, "\n\n", Line{0, 0, 1}, Line{1, 1, 2})
	sameLines(t, "\r\n\n\r\n", Line{0, 0, 2}, Line{2, 2, 3}, Line{3, 3, 5})
	sameLines(t, "\u00e9\u2028\u0085\n", Line{0, 7, 8})
	if got := Split(nil); len(got) != 0 {
		t.Error(got)
	}
}

// P2.1: a 13 that no 10 is behind is the line's.
func TestSplitOfLoneReturns(t *testing.T) {
	sameLines(t, "\r", Line{0, 1, 1})
	sameLines(t, "a\rb", Line{0, 3, 3})
	sameLines(t, "a\r", Line{0, 2, 2})
	sameLines(t, "\r\r\n", Line{0, 1, 3})
	sameLines(t, "\n\r", Line{0, 0, 1}, Line{1, 2, 2})
	sameLines(t, "a\n\rb\r\n", Line{0, 1, 2}, Line{2, 4, 6})
}

// P2.1: the mark is no line's, and only at the beginning is it one.
func TestSplitOfTheMark(t *testing.T) {
	sameLines(t, "\xef\xbb\xbf")
	sameLines(t, "\xef\xbb\xbfa", Line{3, 4, 4})
	sameLines(t, "\xef\xbb\xbf\n", Line{3, 3, 4})
	sameLines(t, "\xef\xbb\xbf\r\n", Line{3, 3, 5})
	sameLines(t, "\xef\xbb\xbf\xef\xbb\xbf", Line{3, 6, 6})
	sameLines(t, "\xef\xbb", Line{0, 2, 2})
	sameLines(t, "\xef\xbba", Line{0, 3, 3})
	sameLines(t, "a\n\xef\xbb\xbf", Line{0, 1, 2}, Line{2, 5, 5})
}

// P2.1
func TestSplitOfEveryShortText(t *testing.T) {
	eachText(6, []string{"a", " ", "\n", "\r", "\xef\xbb\xbf"}, func(s string) {
		sameLines(t, s, splitByRule(s)...)
	})
}

// P2.1: together with the mark, the lines and their breaks are all of it.
func TestSplitLosesNothing(t *testing.T) {
	eachText(5, []string{"a\u00e9", "\r\n", "\n", "\r", "\xef\xbb\xbf"}, func(s string) {
		at := 0
		if strings.HasPrefix(s, "\xef\xbb\xbf") {
			at = 3
		}
		for i, l := range Split([]byte(s)) {
			end := s[l.To:l.Next]
			if l.From != at || l.To < l.From || l.Next <= l.From {
				t.Fatalf("%q: line %d is %v", s, i, l)
			}
			if end != "\n" && end != "\r\n" && (end != "" || l.Next != len(s)) {
				t.Fatalf("%q: line %d ends with %q", s, i, end)
			}
			if strings.Contains(s[l.From:l.To], "\n") {
				t.Fatalf("%q: line %d has a break inside", s, i)
			}
			at = l.Next
		}
		if at != len(s) {
			t.Fatalf("%q: ends at %d", s, at)
		}
	})
}

// P2.1
func TestSplitOfManyLines(t *testing.T) {
	const n = 1 << 16
	for s, want := range map[string]int{strings.Repeat("\n", n): n, strings.Repeat("\r\n", n/2): n / 2, strings.Repeat("\r", n): 1, strings.Repeat("a", n): 1} {
		if got := len(Split([]byte(s))); got != want {
			t.Errorf("%q..: %d lines", s[:2], got)
		}
	}
}

// R4: bytes behind the length are not read, what is handed in stays, each answer is its own.
func TestSplitAndMemory(t *testing.T) {
	b := []byte("a\r\nb\n")
	was := bytes.Clone(b)
	if got := Split(b[:2]); !slices.Equal(got, []Line{{0, 2, 2}}) {
		t.Error(got)
	}
	if got := Split([]byte("\xef\xbb\xbfa")[:2]); !slices.Equal(got, []Line{{0, 2, 2}}) {
		t.Error(got)
	}
	one, two := Split(b), Split(b)
	one[0] = Line{9, 9, 9}
	if two[0] != (Line{0, 1, 3}) || Split(b)[0] != two[0] {
		t.Error(two)
	}
	if !bytes.Equal(b, was) {
		t.Errorf("%q", b)
	}
}

// P2.1
func TestAtOfALinesOwnList(t *testing.T) {
	marked := Split([]byte("\xef\xbb\xbfab\r\n\r\ncd"))
	for offset, want := range map[int][2]int{
		math.MinInt: {-1, 0}, -1: {-1, 0}, 0: {-1, 0}, 2: {-1, 0},
		3: {0, 0}, 4: {0, 1}, 5: {0, 2}, 6: {0, 3}, 7: {1, 0}, 8: {1, 1}, 9: {2, 0}, 10: {2, 1}, 11: {2, 2}, 12: {2, 3}, math.MaxInt: {2, math.MaxInt - 9},
	} {
		if line, column := At(marked, offset); line != want[0] || column != want[1] {
			t.Errorf("At(%d): %d %d, want %v", offset, line, column, want)
		}
	}
	for _, offset := range []int{math.MinInt, -1, 0, 1, math.MaxInt} {
		for _, none := range [][]Line{nil, {}, Split(nil), Split([]byte("\xef\xbb\xbf"))} {
			if line, column := At(none, offset); line != -1 || column != 0 {
				t.Errorf("At(none, %d): %d %d", offset, line, column)
			}
		}
	}
}

// P2.1: each byte lies in the line that has it.
func TestAtOfEveryByte(t *testing.T) {
	eachText(5, []string{"ab", "\n", "\r\n", "\xef\xbb\xbf"}, func(s string) {
		l := Split([]byte(s))
		for i, one := range l {
			for offset := one.From; offset < one.Next; offset++ {
				if line, column := At(l, offset); line != i || column != offset-one.From {
					t.Fatalf("%q: At(%d): %d %d", s, offset, line, column)
				}
			}
		}
	})
}

// P2.1: of lines in any order the last one in the list is meant.
func TestAtOfAnyList(t *testing.T) {
	for _, c := range []struct {
		froms        []int
		offset       int
		line, column int
	}{
		{[]int{0, 0, 0}, 0, 2, 0},
		{[]int{5, 0}, 7, 1, 7},
		{[]int{9, 4, 8, 2, 6}, 3, 3, 1},
		{[]int{9, 4, 8, 2, 6}, 6, 4, 0},
		{[]int{9, 4, 8, 2, 6}, 1, -1, 0},
		{[]int{0, 9, 9}, 5, 0, 5},
		{[]int{-4, 9}, 5, 0, 9},
	} {
		var l []Line
		for _, from := range c.froms {
			l = append(l, Line{From: from})
		}
		if line, column := At(l, c.offset); line != c.line || column != c.column {
			t.Errorf("At(%v, %d): %d %d, want %d %d", c.froms, c.offset, line, column, c.line, c.column)
		}
	}
}

// P2.1
func TestIndentAndBlankOfExamples(t *testing.T) {
	for _, c := range []struct {
		row    string
		indent int
		blank  bool
	}{
		{"", 0, true},
		{" ", 1, true},
		{"   ", 3, true},
		{"a", 0, false},
		{"  a", 2, false},
		{"  a  ", 2, false},
		{"\t", 0, false},
		{" \t", 1, false},
		{"\t ", 0, false},
		{" \r ", 1, false},
		{"\u00a0", 0, false},
		{"  # x", 2, false},
	} {
		for _, end := range []string{"\n", "\r\n", "\n   ", "\n\n"} {
			for _, ahead := range []string{"", "    \n", "\xef\xbb\xbf", "\xef\xbb\xbfb\r\n"} {
				b := []byte(ahead + c.row + end)
				l := Split(b)
				line, _ := At(l, len(ahead))
				if got, blank := Indent(b, l[line]), Blank(b, l[line]); got != c.indent || blank != c.blank {
					t.Errorf("%q: %d %v, want %d %v", b, got, blank, c.indent, c.blank)
				}
			}
		}
	}
}

// P2.1
func TestIndentAndBlankOfEveryByte(t *testing.T) {
	for i := range 256 {
		b := []byte{32, 32, byte(i), 32}
		l := Line{0, 4, 4}
		indent, blank := 2, false
		if i == 32 {
			indent, blank = 4, true
		}
		if got := Indent(b, l); got != indent || Blank(b, l) != blank {
			t.Errorf("byte %d: %d %v", i, got, Blank(b, l))
		}
	}
}

// R1, R8: where a line reaches out of the bytes there are no blanks.
func TestIndentAndBlankOfOtherLines(t *testing.T) {
	for _, c := range []struct {
		s      string
		l      Line
		indent int
		blank  bool
	}{
		{"    ", Line{1, 3, 4}, 2, true},
		{"    ", Line{1, 3, -9}, 2, true},
		{"    ", Line{4, 4, 4}, 0, true},
		{"    ", Line{2, 9, 9}, 2, false},
		{"    ", Line{4, 5, 5}, 0, false},
		{"    ", Line{7, 9, 9}, 0, false},
		{"    ", Line{-2, 2, 2}, 0, false},
		{"    ", Line{3, 1, 1}, 0, false},
		{"    ", Line{1, -1, -1}, 0, false},
		{"", Line{}, 0, true},
		{"", Line{0, 1, 1}, 0, false},
		{"    ", Line{math.MinInt, math.MaxInt, 0}, 0, false},
		{"    ", Line{math.MaxInt, math.MinInt, 0}, 0, false},
		{"    ", Line{0, math.MaxInt, 0}, 4, false},
		{"    ", Line{0, math.MinInt, 0}, 0, false},
	} {
		b := []byte(c.s)
		if got, blank := Indent(b, c.l), Blank(b, c.l); got != c.indent || blank != c.blank {
			t.Errorf("%q %v: %d %v, want %d %v", c.s, c.l, got, blank, c.indent, c.blank)
		}
	}
}

// R4: bytes behind the length are not read, what is handed in stays.
func TestIndentAndBlankAndMemory(t *testing.T) {
	b := []byte("    a\r\n")
	was := bytes.Clone(b)
	if got := Indent(b[:2], Line{0, 4, 4}); got != 2 {
		t.Error(got)
	}
	if Blank(b[:2], Line{0, 4, 4}) || !Blank(b[:2], Line{0, 2, 2}) {
		t.Error("Blank")
	}
	if got := Break(b[:6]); got != "\n" {
		t.Errorf("%q", got)
	}
	if !bytes.Equal(b, was) {
		t.Errorf("%q", b)
	}
}

// P2.1
func TestBreakOfExamples(t *testing.T) {
	for s, want := range map[string]string{
		"": "\n", "a": "\n", "\n": "\n", "\r\n": "\r\n", "a\n": "\n", "a\r\n": "\r\n",
		"a\nb\r\n": "\n", "a\r\nb\n": "\r\n", "\n\r\n": "\n", "\r\n\n": "\r\n",
		"\r": "\n", "a\r": "\n", "a\rb": "\n", "a\rb\n": "\n", "\r\r\n": "\r\n", "\n\r": "\n",
		"\xef\xbb\xbf": "\n", "\xef\xbb\xbfa": "\n", "\xef\xbb\xbf\n": "\n", "\xef\xbb\xbf\r\n": "\r\n", "\xef\xbb\xbfa\r\n\n": "\r\n",
	} {
		if got := Break([]byte(s)); got != want {
			t.Errorf("Break(%q): %q, want %q", s, got, want)
		}
	}
	if got := Break(nil); got != "\n" {
		t.Errorf("%q", got)
	}
}

// P2.1: it is what Split says of the first line.
func TestBreakOfEveryShortText(t *testing.T) {
	eachText(6, []string{"a", "\n", "\r", "\xef\xbb\xbf"}, func(s string) {
		want := "\n"
		if l := splitByRule(s); len(l) > 0 && l[0].To < l[0].Next {
			want = s[l[0].To:l[0].Next]
		}
		if got := Break([]byte(s)); got != want {
			t.Fatalf("Break(%q): %q, want %q", s, got, want)
		}
	})
}
