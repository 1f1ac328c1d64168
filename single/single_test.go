package single

import (
	"regexp"
	"strings"
	"testing"
	"unicode/utf8"

	"scholium/api"
)

// eachText calls do with every text of at most most pieces.
func eachText(most int, pieces []string, do func(s string)) {
	eachLonger("", most, pieces, do)
}

func eachLonger(s string, more int, pieces []string, do func(s string)) {
	do(s)
	if more == 0 {
		return
	}
	for _, p := range pieces {
		eachLonger(s+p, more-1, pieces, do)
	}
}

// scalar is matched against Latin-1, so that each byte is a rune of its own.
var scalar = regexp.MustCompile(`^'((?:[^'\n\r]|'')*)'(?:[^']|$)`)

func bytesAsRunes(s string) string {
	var r []rune
	for i := range len(s) {
		r = append(r, rune(s[i]))
	}
	return string(r)
}

func runesAsBytes(s string) string {
	var b []byte
	for _, r := range s {
		b = append(b, byte(r))
	}
	return string(b)
}

// takeByRule says by other means what P5.1 asks of Take.
func takeByRule(s string) (string, int, bool) {
	m := scalar.FindStringSubmatch(bytesAsRunes(s))
	if m == nil {
		return "", 0, false
	}
	between := runesAsBytes(m[1])
	return strings.Join(strings.Split(between, "''"), "'"), len(between) + 2, true
}

// putByRule says by other means what P5.1 asks of Put.
func putByRule(s string) (string, bool) {
	if !utf8.ValidString(s) || strings.ContainsFunc(s, func(r rune) bool { return !mayStand(r) }) {
		return "", false
	}
	return "'" + strings.Join(strings.Split(s, "'"), "''") + "'", true
}

func mayStand(r rune) bool {
	for _, span := range [][2]rune{{9, 9}, {32, 126}, {133, 133}, {160, 0xD7FF}, {0xE000, 0xFEFE}, {0xFF00, 0xFFFD}, {0x10000, 0x10FFFF}} {
		if r >= span[0] && r <= span[1] {
			return true
		}
	}
	return false
}

func sameAsByRule(t *testing.T, s string) {
	t.Helper()
	value, n, ok := Take([]byte(s))
	if v, m, k := takeByRule(s); value != v || n != m || ok != k {
		t.Fatalf("Take(%q): %q %d %v, want %q %d %v", s, value, n, ok, v, m, k)
	}
	text, ok := Put(s)
	if w, k := putByRule(s); text != w || ok != k {
		t.Fatalf("Put(%q): %q %v, want %q %v", s, text, ok, w, k)
	}
}

// P5.1
func TestTakeOfExamples(t *testing.T) {
	for _, c := range []struct {
		s, value string
		n        int
	}{
		{"'it''s'", "it's", 7}, {"'a'", "a", 3}, {"''", "", 2}, {"' '", " ", 3}, {"'a b'", "a b", 5}, {"' a '", " a ", 5},
		{"''''", "'", 4}, {"''''''", "''", 6}, {"'a'''", "a'", 5}, {"'''a'", "'a", 5}, {"'a''''b'", "a''b", 8}, {"'a'' ''b'", "a' 'b", 9},
		{"'a' b", "a", 3}, {"'a'b", "a", 3}, {"'a' 'b'", "a", 3}, {"'a': b", "a", 3}, {"'' ''", "", 2}, {"'' '", "", 2}, {"'''' '", "'", 4}, {"'a'\"", "a", 3},
		{"'a'\n", "a", 3}, {"'a'\r\n", "a", 3}, {"''\n'", "", 2}, {"'a'\x00", "a", 3}, {"'a'\xff", "a", 3},
		{"'a\tb'", "a\tb", 5}, {"'\\'", "\\", 3}, {"'\\n'", "\\n", 4}, {"'\"'", "\"", 3}, {"'a: b # c'", "a: b # c", 10}, {"'---'", "---", 5}, {"'[a, {b}]'", "[a, {b}]", 10},
		{"'\u00e9\u4e16'", "\u00e9\u4e16", 7}, {"'\u0085'", "\u0085", 4}, {"'\u2019'", "\u2019", 5},
	} {
		if value, n, ok := Take([]byte(c.s)); value != c.value || n != c.n || !ok {
			t.Errorf("Take(%q): %q %d %v", c.s, value, n, ok)
		}
	}
}

// P5.1: Take asks nothing of the bytes within, but that they are no breaks.
func TestTakeOfAnyBytes(t *testing.T) {
	for _, between := range []string{"\x00", "\x01a", "\x7f", "\xff", "\xe4\xb8", "\xc0\x80", "\xed\xa0\x80", "\ufeff", "\uffff", "\x0b", "\x0c", "\u010a", "\u2028"} {
		s := "'" + between + "'"
		if value, n, ok := Take([]byte(s)); value != between || n != len(s) || !ok {
			t.Errorf("Take(%q): %q %d %v", s, value, n, ok)
		}
	}
}

// P5.1, R3
func TestTakeRefuses(t *testing.T) {
	for _, s := range []string{
		"", "a", "a'", "a'b'", " 'a'", "\t'a'", "\"a\"", "\"'a'\"", "`a`", "\u2018a\u2019", "\n'a'", "\xff'a'", "\xef\xbb\xbf'a'",
		"'", "'a", "'a b ", "'''", "'''''", "'a''", "'a''b", "'''a", "'a\"",
		"'\n'", "'a\n'", "'a\nb'", "'\na'", "'\r'", "'a\rb'", "'a\r\nb'", "'a''\n'", "'''\n'", "'a\n", "'\n''", "'a''\rb'",
	} {
		if value, n, ok := Take([]byte(s)); value != "" || n != 0 || ok {
			t.Errorf("Take(%q): %q %d %v", s, value, n, ok)
		}
	}
	if value, n, ok := Take(nil); value != "" || n != 0 || ok {
		t.Error(value, n, ok)
	}
}

// P5.1
func TestPutOfExamples(t *testing.T) {
	for _, c := range [][2]string{
		{"it's", "'it''s'"}, {"", "''"}, {"a", "'a'"}, {" ", "' '"}, {" a ", "' a '"}, {"'", "''''"}, {"''", "''''''"}, {"'a'", "'''a'''"}, {"a''b", "'a''''b'"},
		{"a\tb", "'a\tb'"}, {"\t", "'\t'"}, {"\\n", "'\\n'"}, {"\"", "'\"'"}, {"a: b # c", "'a: b # c'"}, {"---", "'---'"}, {"~", "'~'"},
		{"\u0085", "'\u0085'"}, {"\u00a0", "'\u00a0'"}, {"\u2028", "'\u2028'"}, {"\u4e16's", "'\u4e16''s'"}, {"\ufffd", "'\ufffd'"}, {"\U0001F600", "'\U0001F600'"}, {"\u2019", "'\u2019'"},
	} {
		if got, ok := Put(c[0]); got != c[1] || !ok {
			t.Errorf("Put(%q): %q %v", c[0], got, ok)
		}
	}
}

// P5.1, R3
func TestPutRefuses(t *testing.T) {
	for _, s := range []string{
		"\n", "a\n", "a\nb", "\na", "\r", "a\r", "a\r\nb", "'\n", "'\r'",
		"\xff", "a\xff", "\x80", "a\xe4\xb8", "a\x80b", "\xc0\x80", "\xc0\x8a", "\xed\xa0\x80", "\xf4\x90\x80\x80", "'\xff",
		"\x00", "a\x01", "a\x0b", "a\x1f", "a\x7f", "a\u0080", "a\u009f", "\ufeff", "\ufeffa", "a\ufeff", "\ufffe", "\uffff",
	} {
		if got, ok := Put(s); got != "" || ok {
			t.Errorf("Put(%q): %q %v", s, got, ok)
		}
	}
}

// P5.1: signs in every order.
func TestEveryShortText(t *testing.T) {
	eachText(6, []string{"'", "a", " ", "\n", "\r", "\"", "\u00e9", "\xff"}, func(s string) { sameAsByRule(t, s) })
	eachText(10, []string{"'", "a", "\n"}, func(s string) { sameAsByRule(t, s) })
}

// P5.1: every byte in every place where one may count.
func TestEveryByte(t *testing.T) {
	for i := range 256 {
		c := string([]byte{byte(i)})
		for _, ahead := range []string{"", "'", "''", "'''", "'a", "'a'", "'a''"} {
			for _, behind := range []string{"", "'", "''", "'''", "b'", "\n'", "'\n"} {
				sameAsByRule(t, ahead+c+behind)
			}
		}
		for j := range 256 {
			sameAsByRule(t, "'"+c+string([]byte{byte(j)})+"'")
		}
	}
}

// P5.1
func TestPutOfEveryRune(t *testing.T) {
	for r := rune(0); r <= 0x10FFFF; r++ {
		if r >= 0xD800 && r <= 0xDFFF {
			continue
		}
		s := "a" + string(r) + "b"
		if _, ok := Put(s); ok != mayStand(r) {
			t.Fatalf("Put(%q): %v", s, ok)
		}
	}
}

// P5.1: what Put writes is read again as it was, whatever stands behind.
func TestTakeReadsWhatPutWrites(t *testing.T) {
	eachText(7, []string{"'", "a", " ", "\t", "\u4e16"}, func(s string) {
		text, ok := Put(s)
		if !ok {
			t.Fatalf("Put(%q)", s)
		}
		for _, behind := range []string{"", " '", ": x", "\n"} {
			if value, n, ok := Take([]byte(text + behind)); value != s || n != len(text) || !ok {
				t.Fatalf("Take(%q): %q %d %v", text+behind, value, n, ok)
			}
		}
	})
}

// R1: the limits of a text are not these calls' business, and long ones end soon.
func TestLongTexts(t *testing.T) {
	long := strings.Repeat("it's ", api.MaxBytes)
	text, ok := Put(long)
	if !ok || len(text) != 6*api.MaxBytes+2 {
		t.Fatal(len(text), ok)
	}
	if value, n, ok := Take([]byte(text)); value != long || n != len(text) || !ok {
		t.Error(n, ok)
	}
	if value, n, ok := Take([]byte(text[:len(text)-1])); value != "" || n != 0 || ok {
		t.Error(n, ok)
	}
	quotes := []byte(strings.Repeat("'", 4*api.MaxBytes))
	if value, n, ok := Take(quotes); len(value) != 2*api.MaxBytes-1 || n != len(quotes) || !ok {
		t.Error(len(value), n, ok)
	}
	if value, n, ok := Take(quotes[1:]); value != "" || n != 0 || ok {
		t.Error(len(value), n, ok)
	}
}

// R4: what is handed in stays and is not kept, and what lies behind the length is not read.
func TestMemory(t *testing.T) {
	b := []byte("'ab''c' 'd'")
	was := string(b)
	if value, n, ok := Take(b[:4]); value != "ab" || n != 4 || !ok {
		t.Error(value, n, ok)
	}
	if value, n, ok := Take(b[:3]); value != "" || n != 0 || ok {
		t.Error(value, n, ok)
	}
	if value, n, ok := Take(b[:0]); value != "" || n != 0 || ok {
		t.Error(value, n, ok)
	}
	quoted, _, _ := Take(b)
	plain, _, _ := Take(b[8:])
	if string(b) != was {
		t.Errorf("%q", b)
	}
	clear(b)
	if quoted != "ab'c" || plain != "d" {
		t.Errorf("%q %q", quoted, plain)
	}
}
