package fold

import (
	"math"
	"regexp"
	"slices"
	"strings"
	"testing"

	"scholium/api"
	"scholium/lines"
)

// eachText calls do with every text of at most most pieces.
func eachText(most int, pieces []string, do func(s string)) {
	eachLonger("", most, pieces, do)
}

func eachLonger(s string, more int, pieces []string, do func(s string)) {
	do(s)
	if more == 0 {
		return
	}
	for _, p := range pieces {
		eachLonger(s+p, more-1, pieces, do)
	}
}

// eachList calls do with every list of at most most of the rows.
func eachList(most int, rows []string, do func(l []string)) {
	eachLongerList(nil, most, rows, do)
}

func eachLongerList(l []string, more int, rows []string, do func(l []string)) {
	do(l)
	if more == 0 {
		return
	}
	for _, r := range rows {
		eachLongerList(append(slices.Clone(l), r), more-1, rows, do)
	}
}

// headers are all that differ in how a value is made.
func headers() []Header {
	var all []Header
	for i := range 8 {
		all = append(all, Header{Folded: i&1 > 0, Strip: i&2 > 0, Keep: i&4 > 0})
	}
	return all
}

var headerForm = regexp.MustCompile(`^([|>])(?:([1-9])([-+])|([-+]?)([1-9]?))`)

// headerByRule says by other means what P7.1 asks.
func headerByRule(s string) (Header, int, bool) {
	m := headerForm.FindStringSubmatch(s)
	if m == nil {
		return Header{}, 0, false
	}
	sign, digit := m[3]+m[4], m[2]+m[5]
	h := Header{Folded: m[1] == ">", Strip: sign == "-", Keep: sign == "+"}
	if digit != "" {
		h.Digit = int(digit[0]) - 48
	}
	return h, len(m[0]), true
}

var runOfBreaks = regexp.MustCompile(`\n+`)

// valueByRule says by other means what P7.3 asks, of rows without a byte 10: the runs of breaks of all rows set one below the other.
func valueByRule(h Header, l []string) string {
	all := strings.Join(l, "\n")
	text := strings.TrimRight(all, "\n")
	if text == "" {
		if h.Keep && !h.Strip {
			return strings.Repeat("\n", len(l))
		}
		return ""
	}
	behind := all[len(text):]
	if h.Folded {
		text = foldByRule(text)
	}
	switch {
	case h.Strip:
		return text
	case h.Keep:
		return text + "\n" + behind
	}
	return text + "\n"
}

func foldByRule(text string) string {
	out, at := "", 0
	for _, run := range runOfBreaks.FindAllStringIndex(text, -1) {
		breaks := text[run[0]:run[1]]
		row := text[at:run[0]]
		switch {
		case run[0] == 0 || strings.ContainsAny(row[:1], " \t") || strings.ContainsAny(text[run[1]:run[1]+1], " \t"):
		case breaks == "\n":
			breaks = " "
		default:
			breaks = breaks[1:]
		}
		out += row + breaks
		at = run[1]
	}
	return out + text[at:]
}

// bodyByRule says by other means what P7.2 asks, of a text's lines without their breaks.
func bodyByRule(texts []string, first, parent, digit int) ([]string, int, bool) {
	base := parent
	if parent < 0 {
		base = 0
	}
	column, found := base+digit, digit > 0
	if digit == 0 {
		column = base + 1
		for _, s := range texts[first:] {
			if idle(s) {
				continue
			}
			if n := len(s) - len(strings.TrimLeft(s, " ")); n > parent && !parts(s) {
				column, found = n, true
			}
			break
		}
	}
	var rows []string
	for _, s := range texts[first:] {
		switch {
		case idle(s) && len(s) > column:
			return nil, 0, false
		case idle(s):
			rows = append(rows, "")
		case found && !parts(s) && strings.HasPrefix(s, strings.Repeat(" ", column)):
			rows = append(rows, s[column:])
		default:
			return rows, first + len(rows), true
		}
	}
	return rows, len(texts), true
}

func idle(s string) bool {
	return strings.Trim(s, " ") == ""
}

func parts(s string) bool {
	return s == "---" || s == "..." || strings.HasPrefix(s, "--- ") || strings.HasPrefix(s, "... ")
}

func textsOf(s string, l []lines.Line) []string {
	var all []string
	for _, line := range l {
		all = append(all, s[line.From:line.To])
	}
	return all
}

func sameBody(t *testing.T, s string, l []lines.Line, first, parent, digit int) {
	t.Helper()
	rows, next, ok := Body([]byte(s), l, first, parent, Header{Digit: digit})
	if r, n, k := bodyByRule(textsOf(s, l), first, parent, digit); !slices.Equal(rows, r) || next != n || ok != k {
		t.Fatalf("Body(%q, first %d, parent %d, digit %d): %q %d %v, want %q %d %v", s, first, parent, digit, rows, next, ok, r, n, k)
	}
}

// P7.1
func TestTakeHeaderOfExamples(t *testing.T) {
	for _, c := range []struct {
		s string
		h Header
		n int
	}{
		{"|", Header{}, 1}, {">", Header{Folded: true}, 1}, {"|-", Header{Strip: true}, 2}, {"|+", Header{Keep: true}, 2}, {">-", Header{Folded: true, Strip: true}, 2}, {">+", Header{Folded: true, Keep: true}, 2},
		{"|1", Header{Digit: 1}, 2}, {">9", Header{Folded: true, Digit: 9}, 2}, {"|-2", Header{Strip: true, Digit: 2}, 3}, {"|2-", Header{Strip: true, Digit: 2}, 3}, {">+4", Header{Folded: true, Keep: true, Digit: 4}, 3}, {">4+", Header{Folded: true, Keep: true, Digit: 4}, 3},
		{"|0", Header{}, 1}, {"|-0", Header{Strip: true}, 2}, {"|10", Header{Digit: 1}, 2}, {"|22", Header{Digit: 2}, 2}, {"|--", Header{Strip: true}, 2}, {"|-+", Header{Strip: true}, 2}, {"|+-", Header{Keep: true}, 2}, {"|++", Header{Keep: true}, 2},
		{"|-2-", Header{Strip: true, Digit: 2}, 3}, {"|-22", Header{Strip: true, Digit: 2}, 3}, {"|2-3", Header{Strip: true, Digit: 2}, 3}, {"|2-+", Header{Strip: true, Digit: 2}, 3},
		{"||", Header{}, 1}, {"|>", Header{}, 1}, {"| -", Header{}, 1}, {"|\t2", Header{}, 1}, {"|- 2", Header{Strip: true}, 2}, {"|2 -", Header{Digit: 2}, 2}, {"|a", Header{}, 1}, {">- # x", Header{Folded: true, Strip: true}, 2}, {"|\n  a", Header{}, 1}, {"|\r\n", Header{}, 1}, {">\xff", Header{Folded: true}, 1}, {"|\x00", Header{}, 1}, {"|\u0661", Header{}, 1}, {"|\u2212", Header{}, 1},
	} {
		if h, n, ok := TakeHeader([]byte(c.s)); h != c.h || n != c.n || !ok {
			t.Errorf("TakeHeader(%q): %v %d %v", c.s, h, n, ok)
		}
	}
}

// P7.1, R3
func TestTakeHeaderRefuses(t *testing.T) {
	for _, s := range []string{"", "a", "-", "+", "2", "-|", "2|", " |", "\t>", "\n|", "<", "'|'", "\"|\"", "&a |", "\xef\xbb\xbf|", "\xff|", "\x00", "!", "}"} {
		if h, n, ok := TakeHeader([]byte(s)); h != (Header{}) || n != 0 || ok {
			t.Errorf("TakeHeader(%q): %v %d %v", s, h, n, ok)
		}
	}
	if h, n, ok := TakeHeader(nil); h != (Header{}) || n != 0 || ok {
		t.Error(h, n, ok)
	}
}

// P7.1: the signs in every order, and every byte in every place.
func TestTakeHeaderOfEveryShortText(t *testing.T) {
	same := func(s string) {
		h, n, ok := TakeHeader([]byte(s))
		if w, m, k := headerByRule(s); h != w || n != m || ok != k {
			t.Fatalf("TakeHeader(%q): %v %d %v, want %v %d %v", s, h, n, ok, w, m, k)
		}
	}
	eachText(6, []string{"|", ">", "-", "+", "0", "1", "9", " "}, same)
	for i := range 256 {
		for _, ahead := range []string{"", "|", ">", "|-", "|+", ">3", ">3-", "|+3"} {
			for _, behind := range []string{"", "-", "+", "5", " ", "|"} {
				same(ahead + string([]byte{byte(i)}) + behind)
			}
		}
	}
}

// P7.3
func TestValueOfExamples(t *testing.T) {
	for _, c := range []struct {
		rows, literal, folded string
	}{
		{"a", "a", "a"}, {"a|b", "a\nb", "a b"}, {"a|b|c", "a\nb\nc", "a b c"}, {"a||b", "a\n\nb", "a\nb"}, {"a|||b", "a\n\n\nb", "a\n\nb"}, {"a||b|c", "a\n\nb\nc", "a\nb c"},
		{" a", " a", " a"}, {"a| b", "a\n b", "a\n b"}, {" a|b", " a\nb", " a\nb"}, {"a|\tb", "a\n\tb", "a\n\tb"}, {"\ta|b", "\ta\nb", "\ta\nb"}, {" a|\tb", " a\n\tb", " a\n\tb"}, {"a| b|c|d", "a\n b\nc\nd", "a\n b\nc d"},
		{"a|| b", "a\n\n b", "a\n\n b"}, {" a||b", " a\n\nb", " a\n\nb"}, {"\ta|||b", "\ta\n\n\nb", "\ta\n\n\nb"}, {" a||| b", " a\n\n\n b", " a\n\n\n b"},
		{"|a", "\na", "\na"}, {"||a", "\n\na", "\n\na"}, {"| a", "\n a", "\n a"}, {"||\ta|b", "\n\n\ta\nb", "\n\n\ta\nb"}, {"|a||b", "\na\n\nb", "\na\nb"},
		{"a |b", "a \nb", "a  b"}, {"a\t|b", "a\t\nb", "a\t b"}, {"a| ", "a\n ", "a\n "}, {"a|\t|b", "a\n\t\nb", "a\n\t\nb"}, {" | ", " \n ", " \n "}, {" ", " ", " "},
		{"\u00e9|\u4e16", "\u00e9\n\u4e16", "\u00e9 \u4e16"}, {"\u00a0a|b", "\u00a0a\nb", "\u00a0a b"}, {"\xff|\x00", "\xff\n\x00", "\xff \x00"}, {"\r|a", "\r\na", "\r a"}, {"\va|\fb", "\va\n\fb", "\va \fb"}, {"- a|# b", "- a\n# b", "- a # b"}, {"---|...", "---\n...", "--- ..."},
	} {
		for behind := range 4 {
			l := append(strings.Split(c.rows, "|"), make([]string, behind)...)
			for _, h := range headers() {
				want := c.literal
				if h.Folded {
					want = c.folded
				}
				if !h.Strip {
					want += "\n"
				}
				if h.Keep && !h.Strip {
					want += strings.Repeat("\n", behind)
				}
				if got := Value(h, l...); got != want {
					t.Errorf("Value(%v, %q): %q, want %q", h, l, got, want)
				}
			}
		}
	}
	if got := Value(Header{Folded: true}, "a", "b"); got != "a b\n" {
		t.Errorf("%q", got)
	}
}

// P7.3
func TestValueOfEmptyRows(t *testing.T) {
	for n := range 5 {
		for _, h := range headers() {
			want := ""
			if h.Keep && !h.Strip {
				want = "\n\n\n\n"[:n]
			}
			if got := Value(h, make([]string, n)...); got != want {
				t.Errorf("Value(%v) of %d: %q", h, n, got)
			}
		}
	}
	if got := Value(Header{Keep: true}); got != "" {
		t.Errorf("%q", got)
	}
	if got := Value(Header{Keep: true}, nil...); got != "" {
		t.Errorf("%q", got)
	}
}

// P7.3: a header's digit is of the lines, not of the rows.
func TestValueHeedsNoDigit(t *testing.T) {
	for _, digit := range []int{1, 9, 10, -1, math.MaxInt, math.MinInt} {
		for _, h := range headers() {
			l := []string{"", "a", "b", "", " c", ""}
			want := Value(h, l...)
			h.Digit = digit
			if got := Value(h, l...); got != want {
				t.Errorf("Value(%v): %q, want %q", h, got, want)
			}
		}
	}
}

// P7.3
func TestValueOfEveryShortList(t *testing.T) {
	all := headers()
	eachList(6, []string{"", "a", " b", "\tc", "d "}, func(l []string) {
		for _, h := range all {
			if got, want := Value(h, l...), valueByRule(h, l); got != want {
				t.Fatalf("Value(%v, %q): %q, want %q", h, l, got, want)
			}
		}
	})
}

// P7.3: a row is folded by its first byte alone.
func TestValueOfEveryByte(t *testing.T) {
	for i := range 256 {
		if i == 10 {
			continue
		}
		c := string([]byte{byte(i)})
		for _, h := range headers() {
			for _, l := range [][]string{{c}, {c, "a"}, {"a", c}, {"a", "", c}, {c, "", "a", ""}, {"a" + c, "b"}, {"", c + "a", "b"}, {"a", "b" + c}} {
				if got, want := Value(h, l...), valueByRule(h, l); got != want {
					t.Fatalf("Value(%v, %q): %q, want %q", h, l, got, want)
				}
			}
		}
	}
}

// P7.3: a row is what is handed in, even if it holds a break.
func TestValueOfRowsWithBreaks(t *testing.T) {
	for _, c := range []struct {
		h    Header
		l    []string
		want string
	}{
		{Header{}, []string{"a\n", "b"}, "a\n\nb\n"}, {Header{Folded: true}, []string{"a\n", "b"}, "a\n b\n"}, {Header{Folded: true}, []string{"\n", "a"}, "\n a\n"},
		{Header{Strip: true}, []string{"a", "\n", ""}, "a\n\n"}, {Header{Keep: true}, []string{"\n", ""}, "\n\n\n"}, {Header{}, []string{"\n"}, "\n\n"},
	} {
		if got := Value(c.h, c.l...); got != c.want {
			t.Errorf("Value(%v, %q): %q", c.h, c.l, got)
		}
	}
}

// P7.2
func TestBodyOfExamples(t *testing.T) {
	for _, c := range []struct {
		text                 string
		first, parent, digit int
		rows                 []string
		next                 int
	}{
		{"  a\n  b\n", 0, 0, 0, []string{"a", "b"}, 2}, {"  a\n   b\nc\n", 0, 0, 0, []string{"a", " b"}, 2}, {"a\nb", 0, -1, 0, []string{"a", "b"}, 2}, {"k: |\n  a\nb: c\n", 1, 0, 0, []string{"a"}, 2}, {"x\n  a\n  b\n", 2, 0, 0, []string{"b"}, 3},
		{"  a\n b\n", 0, 0, 0, []string{"a"}, 1}, {"   a\n  b\n c\n", 0, 1, 0, []string{"a"}, 1}, {" a\n  b\n", 0, -1, 0, []string{"a", " b"}, 2}, {"  a", 0, 1, 0, []string{"a"}, 1},
		{"\n  a\n\n\nc", 0, 0, 0, []string{"", "a", "", ""}, 4}, {"  \n  a\n  \n  b\n \n", 0, 0, 0, []string{"", "a", "", "b", ""}, 5}, {" \n  a\n", 0, 0, 0, []string{"", "a"}, 2}, {"\n\n\na", 0, -1, 0, []string{"", "", "", "a"}, 4},
		{"  a \n", 0, 0, 0, []string{"a "}, 1}, {"  \ta\n  \t\n", 0, 0, 0, []string{"\ta", "\t"}, 2}, {"\ta\n\t\n", 0, -1, 0, []string{"\ta", "\t"}, 2}, {"  a\n\t\n", 0, 0, 0, []string{"a"}, 1}, {"\ta\n", 0, 0, 0, nil, 0}, {" \ta\n", 0, 0, 0, []string{"\ta"}, 1},
		{"  # a\n # b\n", 0, 0, 0, []string{"# a"}, 1}, {"# a\n", 0, -1, 0, []string{"# a"}, 1}, {"- a\n%b\n", 0, -1, 0, []string{"- a", "%b"}, 2},
		{"a\r\n\r\n b\r\n", 0, -1, 0, []string{"a", "", " b"}, 3}, {"\xef\xbb\xbf a\n b", 0, 0, 0, []string{"a", "b"}, 2}, {"  \u00e9\u4e16\n", 0, 1, 0, []string{"\u00e9\u4e16"}, 1}, {" \xff\x00\n", 0, 0, 0, []string{"\xff\x00"}, 1},
	} {
		rows, next, ok := Body([]byte(c.text), lines.Split([]byte(c.text)), c.first, c.parent, Header{Digit: c.digit})
		if !slices.Equal(rows, c.rows) || next != c.next || !ok {
			t.Errorf("Body(%q, %d, %d): %q %d %v", c.text, c.first, c.parent, rows, next, ok)
		}
	}
}

// P7.2: the digit is counted from the parent's column on, or from 0.
func TestBodyWithADigit(t *testing.T) {
	for _, c := range []struct {
		text          string
		parent, digit int
		rows          []string
		next          int
	}{
		{" a\n", 0, 1, []string{"a"}, 1}, {"  a\n", 0, 1, []string{" a"}, 1}, {"  a\n b\n", 0, 1, []string{" a", "b"}, 2}, {" a\n", -1, 1, []string{"a"}, 1}, {"  a\n", -1, 2, []string{"a"}, 1}, {" a\n", -1, 2, nil, 0}, {"a\n", -1, 1, nil, 0},
		{"   a\n", 2, 1, []string{"a"}, 1}, {"  a\n", 2, 1, nil, 0}, {"    a\n   b\n", 1, 2, []string{" a", "b"}, 2}, {"\n\n  a\n", 2, 1, []string{"", ""}, 2}, {"\n  \n", 1, 1, []string{"", ""}, 2}, {"", 3, 2, nil, 0},
		{"         a\n", 0, 9, []string{"a"}, 1}, {"        a\n", 0, 9, nil, 0}, {"---\n", -1, 1, nil, 0}, {" ---\n ... a\n", 0, 1, []string{"---", "... a"}, 2}, {" \ta\n", 0, 1, []string{"\ta"}, 1}, {"  a\n \t\n", 0, 2, []string{"a"}, 1},
	} {
		rows, next, ok := Body([]byte(c.text), lines.Split([]byte(c.text)), 0, c.parent, Header{Digit: c.digit})
		if !slices.Equal(rows, c.rows) || next != c.next || !ok {
			t.Errorf("Body(%q, %d, digit %d): %q %d %v", c.text, c.parent, c.digit, rows, next, ok)
		}
	}
}

// P7.2: only blank lines are there, or what follows is not above the parent.
func TestBodyOfBlankLines(t *testing.T) {
	for _, c := range []struct {
		text   string
		parent int
		rows   []string
		next   int
	}{
		{"", 0, nil, 0}, {"", -1, nil, 0}, {"\n", 0, []string{""}, 1}, {"\n\n", -1, []string{"", ""}, 2}, {" \n", -1, []string{""}, 1}, {" ", 0, []string{""}, 1}, {"  \n", 1, []string{""}, 1}, {"   \n\n", 2, []string{"", ""}, 2}, {"\r\n \r\n", 0, []string{"", ""}, 2},
		{"a\n", 0, nil, 0}, {"\n\na\n", 0, []string{"", ""}, 2}, {" \na\n", 0, []string{""}, 1}, {"  a\n", 2, nil, 0}, {"\n a\n", 2, []string{""}, 1}, {"   \n  a\n", 2, []string{""}, 1}, {"\na\n\n", 0, []string{""}, 1},
	} {
		rows, next, ok := Body([]byte(c.text), lines.Split([]byte(c.text)), 0, c.parent, Header{})
		if !slices.Equal(rows, c.rows) || next != c.next || !ok {
			t.Errorf("Body(%q, %d): %q %d %v", c.text, c.parent, rows, next, ok)
		}
	}
}

// P7.2: a line that parts documents ends it, if nothing but a blank is joined to it.
func TestBodyEndsAtADocumentsMark(t *testing.T) {
	for _, sign := range []string{"---", "..."} {
		for _, rest := range []string{"", " ", " a", "  ", " # a"} {
			for ahead, rows := range map[string][]string{"": nil, "\n": {""}, "a\n": {"a"}, "a\n\n": {"a", ""}, " \n": {""}} {
				s := ahead + sign + rest + "\nb\n"
				if got, next, ok := Body([]byte(s), lines.Split([]byte(s)), 0, -1, Header{}); !slices.Equal(got, rows) || next != len(rows) || !ok {
					t.Errorf("Body(%q): %q %d %v", s, got, next, ok)
				}
			}
		}
		for _, rest := range []string{"a", "\t", "\ta", sign, sign[:1], "\u00a0", "\rb", "\x00"} {
			for _, s := range []string{sign + rest, "a\n" + sign + rest + "\nb\n"} {
				want := strings.Split(strings.TrimSuffix(s, "\n"), "\n")
				if got, next, ok := Body([]byte(s), lines.Split([]byte(s)), 0, -1, Header{}); !slices.Equal(got, want) || next != len(want) || !ok {
					t.Errorf("Body(%q): %q %d %v", s, got, next, ok)
				}
			}
		}
	}
	for _, s := range []string{" ---\n ...\n", " --- a\n ---\n", "--\n..\n", "-\n--..\n", ".-.\n..-\n", "a---\na ...\n"} {
		if got, next, ok := Body([]byte(s), lines.Split([]byte(s)), 0, -1, Header{}); len(got) != 2 || next != 2 || !ok {
			t.Errorf("Body(%q): %q %d %v", s, got, next, ok)
		}
	}
}

// P7.2, R3: a blank line that is longer than the column, wherever it belongs.
func TestBodyRefuses(t *testing.T) {
	for _, c := range []struct {
		text          string
		parent, digit int
	}{
		{"   \n  a\n", 0, 0}, {"  a\n   \n", 0, 0}, {"  a\n   \n  b\n", 0, 0}, {"  a\n\n   \nc\n", 0, 0}, {"  a\n   ", 0, 0}, {"  a\n  b\n\n   \r\n", 0, 0}, {" \na\n", -1, 0}, {"a\n \n", -1, 0}, {"a\n \n---\n", -1, 0},
		{"  \n", 0, 0}, {"  \n", -1, 0}, {"   \n", 1, 0}, {"  \na\n", 0, 0}, {"  \n---\n", -1, 0}, {"    \n  a\n", 2, 0}, {" \n  \n", 0, 0},
		{"  \n", 0, 1}, {"  \n a\n", 0, 1}, {" a\n  \n", 0, 1}, {"   \n", 1, 1}, {"  \na\n", 0, 1}, {"  \n", -1, 1},
	} {
		if rows, next, ok := Body([]byte(c.text), lines.Split([]byte(c.text)), 0, c.parent, Header{Digit: c.digit}); len(rows) != 0 || next != 0 || ok {
			t.Errorf("Body(%q, %d, %d): %q %d %v", c.text, c.parent, c.digit, rows, next, ok)
		}
	}
}

// P7.2: blank lines behind its end, or ahead of first, are no business of its.
func TestBodyLooksAtItsOwnLinesOnly(t *testing.T) {
	s := "      \n  a\nb\n      \n"
	l := lines.Split([]byte(s))
	if rows, next, ok := Body([]byte(s), l, 1, 0, Header{}); !slices.Equal(rows, []string{"a"}) || next != 2 || !ok {
		t.Error(rows, next, ok)
	}
	if rows, next, ok := Body([]byte(s), l, 2, 0, Header{}); len(rows) != 0 || next != 2 || !ok {
		t.Error(rows, next, ok)
	}
	if rows, next, ok := Body([]byte(s), l[:1], 1, 0, Header{}); len(rows) != 0 || next != 1 || !ok {
		t.Error(rows, next, ok)
	}
}

// P7.2: of the header, only the digit counts.
func TestBodyHeedsTheDigitOnly(t *testing.T) {
	for _, s := range []string{"   a\n\n  b\n\n\nc\n", "  \n   \n", "\n\n", "\n   \n a\n"} {
		l := lines.Split([]byte(s))
		for digit := range 4 {
			rows, next, ok := Body([]byte(s), l, 0, 0, Header{Digit: digit})
			for _, h := range headers() {
				h.Digit = digit
				if r, n, k := Body([]byte(s), l, 0, 0, h); !slices.Equal(r, rows) || n != next || k != ok {
					t.Errorf("Body(%q, %v): %q %d %v", s, h, r, n, k)
				}
			}
		}
	}
}

// P7.2
func TestBodyOfEveryShortText(t *testing.T) {
	everywhere := func(s string) {
		l := lines.Split([]byte(s))
		for first := range len(l) + 1 {
			for parent := -1; parent <= 2; parent++ {
				for digit := range 3 {
					sameBody(t, s, l, first, parent, digit)
				}
			}
		}
	}
	eachText(9, []string{" ", "a", "\n"}, everywhere)
	eachText(5, []string{" ", "a", "\n", "\t", "---", "...", "\r\n", "\xef\xbb\xbf"}, everywhere)
	eachText(7, []string{"---", " ", "\n", "-"}, everywhere)
}

// P7.2: every byte at a row's beginning, in it, and behind a document's mark.
func TestBodyOfEveryByte(t *testing.T) {
	for i := range 256 {
		c := string([]byte{byte(i)})
		for _, s := range []string{c, " " + c, "a\n" + c, "  a\n" + c, "  a\n  " + c, "---" + c, "a\n..." + c, " \n" + c + "b", "a" + c + "\n b"} {
			l := lines.Split([]byte(s))
			for parent := -1; parent <= 1; parent++ {
				for digit := range 3 {
					sameBody(t, s, l, 0, parent, digit)
				}
			}
		}
	}
}

// P7.2, R8: a line that is none has nothing behind it.
func TestBodyFromNoLine(t *testing.T) {
	s := []byte("  a\n  b\n")
	l := lines.Split(s)
	for _, first := range []int{2, 3, 100, math.MaxInt, -1, -2, math.MinInt} {
		for _, digit := range []int{0, 1} {
			if rows, next, ok := Body(s, l, first, 0, Header{Digit: digit}); len(rows) != 0 || next != 2 || !ok {
				t.Errorf("Body from %d: %q %d %v", first, rows, next, ok)
			}
			if rows, next, ok := Body(s, nil, first, 0, Header{Digit: digit}); len(rows) != 0 || next != 0 || !ok {
				t.Errorf("Body of no lines from %d: %q %d %v", first, rows, next, ok)
			}
		}
	}
}

// P7.2, R6, R8: a parent or a digit below what there is is none; one that is great has no bounds.
func TestBodyOfFarNumbers(t *testing.T) {
	s := []byte("\n a\n\n")
	l := lines.Split(s)
	for _, parent := range []int{-1, -2, math.MinInt} {
		for _, digit := range []int{0, -1, math.MinInt} {
			if rows, next, ok := Body(s, l, 0, parent, Header{Digit: digit}); !slices.Equal(rows, []string{"", "a", ""}) || next != 3 || !ok {
				t.Errorf("Body(%d, %d): %q %d %v", parent, digit, rows, next, ok)
			}
		}
	}
	for _, parent := range []int{1, 2, 4, 5, 6, 1 << 31, math.MaxInt - 1, math.MaxInt} {
		for _, digit := range []int{0, 1, 9, 10, 1 << 31, math.MaxInt, -1, math.MinInt} {
			if rows, next, ok := Body(s, l, 0, parent, Header{Digit: digit}); !slices.Equal(rows, []string{""}) || next != 1 || !ok {
				t.Errorf("Body(%d, %d): %q %d %v", parent, digit, rows, next, ok)
			}
		}
	}
	deep := []byte(strings.Repeat(" ", 20) + "a")
	for _, c := range []struct {
		parent, digit int
		want          string
	}{{0, 12, "        a"}, {8, 12, "a"}, {-5, 20, "a"}, {19, 1, "a"}, {20, -1, ""}, {19, -1, "a"}} {
		if rows, _, ok := Body(deep, lines.Split(deep), 0, c.parent, Header{Digit: c.digit}); strings.Join(rows, "|") != c.want || !ok {
			t.Errorf("Body(%d, %d): %q %v", c.parent, c.digit, rows, ok)
		}
	}
	blanks := []byte("      ")
	if _, next, ok := Body(blanks, lines.Split(blanks), 0, math.MaxInt, Header{Digit: math.MaxInt}); next != 1 || !ok {
		t.Error(next, ok)
	}
}

// R1: lines that were not made of these bytes do no harm.
func TestBodyOfOtherLines(t *testing.T) {
	at := []int{math.MinInt, -1, 0, 1, 2, 3, 4, 5, 9, math.MaxInt}
	for _, s := range []string{"", "a", " a\nb", "    ", "---", "  --- "} {
		for _, from := range at {
			for _, to := range at {
				for _, other := range []lines.Line{{}, {From: 1, To: 3, Next: 4}, {From: from, To: to}, {From: to, To: from}} {
					l := []lines.Line{{From: from, To: to, Next: to}, other}
					for _, parent := range []int{-1, 0, 1, math.MaxInt} {
						for _, digit := range []int{-1, 0, 1, 2} {
							rows, next, ok := Body([]byte(s), l, 0, parent, Header{Digit: digit})
							if ok && len(rows) != next || !ok && (rows != nil || next != 0) {
								t.Fatalf("Body(%q, %v): %q %d %v", s, l, rows, next, ok)
							}
						}
					}
				}
			}
		}
	}
}

// R1: long ones end soon.
func TestLongTexts(t *testing.T) {
	const n = api.MaxBytes
	s := []byte(strings.Repeat("  a\n\n", n))
	rows, next, ok := Body(s, lines.Split(s), 0, 0, Header{})
	if len(rows) != 2*n || next != 2*n || !ok {
		t.Fatal(len(rows), next, ok)
	}
	if got := Value(Header{Folded: true}, rows...); got != strings.Repeat("a\n", n) {
		t.Error(len(got))
	}
	if got := Value(Header{Keep: true}, rows...); got != strings.Repeat("a\n\n", n-1)+"a\n\n" {
		t.Error(len(got))
	}
	if got := Value(Header{Folded: true, Keep: true}, make([]string, n)...); len(got) != n {
		t.Error(len(got))
	}
	if h, size, ok := TakeHeader([]byte("|" + strings.Repeat("-", n))); h != (Header{Strip: true}) || size != 2 || !ok {
		t.Error(h, size, ok)
	}
}

// R4: what is handed in stays and is not kept, and what lies behind the length is not read.
func TestMemory(t *testing.T) {
	b := []byte("  a\n  b\n  c\n")
	was := string(b)
	l := lines.Split(b)
	lWas := slices.Clone(l)
	rows, next, ok := Body(b[:7], l[:2], 0, 0, Header{})
	if !slices.Equal(rows, []string{"a", "b"}) || next != 2 || !ok {
		t.Error(rows, next, ok)
	}
	again, _, _ := Body(b, l, 0, 0, Header{})
	if string(b) != was || !slices.Equal(l, lWas) {
		t.Errorf("%q %v", b, l)
	}
	clear(b)
	clear(l)
	again[0] = "x"
	if !slices.Equal(rows, []string{"a", "b"}) || !slices.Equal(again, []string{"x", "b", "c"}) {
		t.Error(rows, again)
	}

	list := []string{"a", "", "b", "", "c"}
	listWas := slices.Clone(list)
	if got := Value(Header{Folded: true, Keep: true}, list[:4]...); got != "a\nb\n\n" || !slices.Equal(list, listWas) {
		t.Errorf("%q %q", got, list)
	}
	header := []byte("|-2")
	for n, want := range []Header{{}, {}, {Strip: true}, {Strip: true, Digit: 2}} {
		if h, size, ok := TakeHeader(header[:n]); h != want || size != n || ok != (n > 0) {
			t.Error(n, h, size, ok)
		}
	}
	if string(header) != "|-2" {
		t.Errorf("%q", header)
	}
}

// P7.1 to P7.3 together: what a writer sets below a header is read as it was.
func TestHeaderBodyAndValue(t *testing.T) {
	for _, c := range []struct{ text, want string }{
		{"|\n  a\n   b\n\n  c\n\n", "a\n b\n\nc\n"}, {">\n  a\n  b\n\n  c\n\n", "a b\nc\n"}, {"|-\n  a\n\n", "a"}, {"|+\n  a\n\n\n", "a\n\n\n"}, {">2-\n   a\n  b\n", " a\nb"}, {"|1+\n\n", "\n"}, {">-\n", ""}, {"|\nb: c\n", ""}, {">+\n\nb: c\n", "\n"},
	} {
		b := []byte(c.text)
		h, n, ok := TakeHeader(b)
		if !ok || n != strings.Index(c.text, "\n") {
			t.Fatalf("%q: %v %d %v", c.text, h, n, ok)
		}
		rows, _, ok := Body(b, lines.Split(b), 1, 0, h)
		if got := Value(h, rows...); got != c.want || !ok {
			t.Errorf("%q: %q %v", c.text, got, ok)
		}
	}
}
