package double

import (
	"fmt"
	"regexp"
	"strconv"
	"strings"
	"testing"
	"unicode/utf8"

	"scholium/api"
)

// eachText calls do with every text of at most most pieces.
func eachText(most int, pieces []string, do func(s string)) {
	eachLonger("", most, pieces, do)
}

func eachLonger(s string, more int, pieces []string, do func(s string)) {
	do(s)
	if more == 0 {
		return
	}
	for _, p := range pieces {
		eachLonger(s+p, more-1, pieces, do)
	}
}

const oneEscape = `\\(?:[0abtnvfre"/\\ N_LP]|x[0-9A-Fa-f]{2}|u[0-9A-Fa-f]{4}|U[0-9A-Fa-f]{8})`

// Both are matched against Latin-1, so that each byte is a rune of its own.
var (
	scalar = regexp.MustCompile(`^"((?:[^"\\\n\r]|` + oneEscape + `)*)"`)
	piece  = regexp.MustCompile(oneEscape + `|[^\\]+`)
)

var byLetter = map[string]string{
	"0": "\x00", "a": "\x07", "b": "\x08", "t": "\x09", "n": "\x0a", "v": "\x0b", "f": "\x0c", "r": "\x0d", "e": "\x1b",
	"\"": "\"", "/": "/", "\\": "\\", " ": " ", "N": "\xc2\x85", "_": "\xc2\xa0", "L": "\xe2\x80\xa8", "P": "\xe2\x80\xa9",
}

func bytesAsRunes(s string) string {
	var r []rune
	for i := range len(s) {
		r = append(r, rune(s[i]))
	}
	return string(r)
}

func runesAsBytes(s string) string {
	var b []byte
	for _, r := range s {
		b = append(b, byte(r))
	}
	return string(b)
}

// takeByRule says by other means what P6.1 asks of Take.
func takeByRule(s string) (string, int, bool) {
	m := scalar.FindStringSubmatch(bytesAsRunes(s))
	if m == nil {
		return "", 0, false
	}
	value := ""
	for _, p := range piece.FindAllString(m[1], -1) {
		v, ok := pieceByRule(runesAsBytes(p))
		if !ok {
			return "", 0, false
		}
		value += v
	}
	return value, len(runesAsBytes(m[0])), true
}

func pieceByRule(p string) (string, bool) {
	if p[0] != '\\' {
		return p, true
	}
	if len(p) == 2 {
		return byLetter[p[1:]], true
	}
	n, err := strconv.ParseInt(p[2:], 16, 64)
	if err != nil || n >= 0xD800 && n <= 0xDFFF || n > 0x10FFFF {
		return "", false
	}
	return string(rune(n)), true
}

// putByRule says by other means what P6.2 asks of Put.
func putByRule(s string) (string, bool) {
	if !utf8.ValidString(s) {
		return "", false
	}
	text := "\""
	for _, r := range s {
		text += runeByRule(r)
	}
	return text + "\"", true
}

func runeByRule(r rune) string {
	for letter, v := range byLetter {
		if v == string(r) && letter != "/" && letter != " " {
			return "\\" + letter
		}
	}
	switch {
	case mayStand(r):
		return string(r)
	case r < 0x100:
		return fmt.Sprintf("\\x%02X", r)
	case r < 0x10000:
		return fmt.Sprintf("\\u%04X", r)
	}
	return fmt.Sprintf("\\U%08X", r)
}

func mayStand(r rune) bool {
	for _, span := range [][2]rune{{32, 126}, {161, 0xD7FF}, {0xE000, 0xFEFE}, {0xFF00, 0xFFFD}, {0x10000, 0x10FFFF}} {
		if r >= span[0] && r <= span[1] {
			return true
		}
	}
	return false
}

func sameTake(t *testing.T, s string) {
	t.Helper()
	value, n, ok := Take([]byte(s))
	if v, m, k := takeByRule(s); value != v || n != m || ok != k {
		t.Fatalf("Take(%q): %q %d %v, want %q %d %v", s, value, n, ok, v, m, k)
	}
}

func samePut(t *testing.T, s string) {
	t.Helper()
	text, ok := Put(s)
	if w, k := putByRule(s); text != w || ok != k {
		t.Fatalf("Put(%q): %q %v, want %q %v", s, text, ok, w, k)
	}
}

// P6.1
func TestTakeOfExamples(t *testing.T) {
	for _, c := range []struct {
		s, value string
		n        int
	}{
		{`"a"`, "a", 3}, {`""`, "", 2}, {`" "`, " ", 3}, {`" a b "`, " a b ", 7}, {`"a\n"`, "a\n", 5},
		{`"a" b`, "a", 3}, {`"a"b"`, "a", 3}, {`"a""b"`, "a", 3}, {`"" "`, "", 2}, {`"a": b`, "a", 3}, {`"a"\`, "a", 3}, {`"a"\q`, "a", 3},
		{"\"a\"\n", "a", 3}, {"\"a\"\r\n", "a", 3}, {"\"\"\n\"", "", 2}, {"\"a\"\x00", "a", 3}, {"\"a\"\xff", "a", 3},
		{"\"a\tb\"", "a\tb", 5}, {`"it's"`, "it's", 6}, {`"''"`, "''", 4}, {`"a/b"`, "a/b", 5}, {`"a: b # c"`, "a: b # c", 10}, {`"---"`, "---", 5}, {`"[a, {b}]"`, "[a, {b}]", 10},
		{"\"\u00e9\u4e16\U0001F600\"", "\u00e9\u4e16\U0001F600", 11}, {"\"\u0085\u2028\"", "\u0085\u2028", 7},
		{`"\""`, "\"", 4}, {`"\\"`, "\\", 4}, {`"\\\""`, "\\\"", 6}, {`"\\" "`, "\\", 4}, {`"\\n"`, "\\n", 5}, {`"\\\n"`, "\\\n", 6}, {`"\"a\""`, "\"a\"", 7}, {`"\/\ x"`, "/ x", 7}, {`"\  "`, "  ", 5},
	} {
		if value, n, ok := Take([]byte(c.s)); value != c.value || n != c.n || !ok {
			t.Errorf("Take(%q): %q %d %v", c.s, value, n, ok)
		}
	}
}

// P6.1
func TestTakeOfEachLetter(t *testing.T) {
	for i := range 256 {
		s := "\"" + string([]byte{'\\', byte(i)}) + "\"\""
		value, n, ok := Take([]byte(s))
		want, known := byLetter[string([]byte{byte(i)})]
		if value != want || ok != known || n != map[bool]int{true: 4}[known] {
			t.Errorf("Take(%q): %q %d %v", s, value, n, ok)
		}
	}
}

// P6.1
func TestTakeOfNumbers(t *testing.T) {
	for _, c := range []struct{ between, value string }{
		{`\x00`, "\x00"}, {`\x0A`, "\n"}, {`\x0d`, "\r"}, {`\x41`, "A"}, {`\x22`, "\""}, {`\x5C`, "\\"}, {`\x5cn`, "\\n"}, {`\x7f`, "\x7f"}, {`\x80`, "\u0080"}, {`\xfF`, "\u00ff"}, {`\x410`, "A0"}, {`\x41\x42`, "AB"},
		{`\u0000`, "\x00"}, {`\u0041`, "A"}, {`\u4e16`, "\u4e16"}, {`\u4E16F`, "\u4e16F"}, {`\uD7FF`, "\ud7ff"}, {`\ue000`, "\ue000"}, {`\uFEFF`, "\ufeff"}, {`\uFFFE`, "\ufffe"}, {`\uffff`, "\uffff"}, {`\u00e9x`, "\u00e9x"},
		{`\U00000000`, "\x00"}, {`\U00000041`, "A"}, {`\U0000D7FF`, "\ud7ff"}, {`\U0000E000`, "\ue000"}, {`\U00010000`, "\U00010000"}, {`\U0001F600`, "\U0001F600"}, {`\U0010ffff`, "\U0010FFFF"}, {`\U0010FFFF0`, "\U0010FFFF0"},
	} {
		s := "\"" + c.between + "\""
		if value, n, ok := Take([]byte(s)); value != c.value || n != len(s) || !ok {
			t.Errorf("Take(%q): %q %d %v", s, value, n, ok)
		}
	}
}

// P6.1
func TestTakeOfEveryNumber(t *testing.T) {
	for n := range 0x111000 {
		want, is := string(rune(n)), n < 0xD800 || n > 0xDFFF && n <= 0x10FFFF
		if !is {
			want = ""
		}
		texts := []string{fmt.Sprintf("\"\\U%08x\"", n)}
		if n < 0x10000 {
			texts = append(texts, fmt.Sprintf("\"\\u%04X\"", n))
		}
		if n < 0x100 {
			texts = append(texts, fmt.Sprintf("\"\\x%02x\"", n))
		}
		for _, s := range texts {
			if value, size, ok := Take([]byte(s)); value != want || ok != is || is && size != len(s) || !is && size != 0 {
				t.Fatalf("Take(%q): %q %d %v", s, value, size, ok)
			}
		}
	}
}

// P6.1: a number's upper bits count, and so does each of its digits.
func TestTakeRefusesNumbers(t *testing.T) {
	for _, between := range []string{
		`\uD800`, `\uDBFF`, `\udc00`, `\uDFFF`, `\U0000D800`, `\U0000dfff`, `\uD83D\uDE00`, `\U00110000`, `\U01000041`, `\U10000041`, `\U7FFFFFFF`, `\U80000000`, `\U80000041`, `\UFFFFFFFF`,
		`\x`, `\x4`, `\x4g`, `\xg4`, `\x 4`, `\x-1`, `\x+1`, `\x4_`, `\x0x41`, `\u`, `\u4e1`, `\u4e1g`, `\u4e1 `, `\u{41}`, `\U`, `\U0001F60`, `\U0001F60g`, `\U0001F60:`, `\X41`,
		`\x4/`, `\x4:`, `\x4@`, `\x4G`, "\\x4`", `\x4\`, "\\x4\u0661", "\\x\n4", "\\x4\r",
	} {
		s := "\"" + between + "\""
		if value, n, ok := Take([]byte(s)); value != "" || n != 0 || ok {
			t.Errorf("Take(%q): %q %d %v", s, value, n, ok)
		}
	}
}

// P6.1: a number's digits are the sixteen, in either case, in each of its places.
func TestTakeOfEachDigit(t *testing.T) {
	for i := range 256 {
		c := string([]byte{byte(i)})
		for _, zeros := range []string{"00", "0000", "00000000"} {
			letter := map[int]string{2: "x", 4: "u", 8: "U"}[len(zeros)]
			for at := range len(zeros) {
				sameTake(t, "\"\\"+letter+zeros[:at]+c+zeros[at+1:]+"\"")
			}
		}
	}
}

// P6.1: Take asks nothing of the other bytes within, but that they are no breaks.
func TestTakeOfAnyBytes(t *testing.T) {
	for _, between := range []string{"\x00", "\x01a", "\x7f", "\xff", "\xe4\xb8", "\xc0\x80", "\xed\xa0\x80", "\ufeff", "\uffff", "\x0b", "\x0c", "\u010a", "\u2028", "\ufffd"} {
		s := "\"" + between + "\""
		if value, n, ok := Take([]byte(s)); value != between || n != len(s) || !ok {
			t.Errorf("Take(%q): %q %d %v", s, value, n, ok)
		}
	}
}

// P6.1, R3
func TestTakeRefuses(t *testing.T) {
	for _, s := range []string{
		"", "a", `a"`, `a"b"`, ` "a"`, "\t\"a\"", `'a'`, `'"a"'`, "`a`", `\"a"`, "\u201ca\u201d", "\n\"a\"", "\xff\"a\"", "\xef\xbb\xbf\"a\"",
		`"`, `"a`, `"a b `, `"a'`, `"\"`, `"a\"`, `"\\\"`, `"a\\`, `"\`, `"a\`, `"a\"b`, `"\x`, `"\x4`, `"\x41`, `"\u4e16`, `"\U0001F600`, `"\n`, `"a\/`,
		"\"\n\"", "\"a\n\"", "\"a\nb\"", "\"\na\"", "\"\r\"", "\"a\rb\"", "\"a\r\nb\"", "\"a\n", "\"\\\"\n\"", "\"\\n\n\"", "\"\\\n\"", "\"a\\\nb\"", "\"\\\r\n\"",
		`"\q"`, `"a\qb"`, `"\'"`, `"\1"`, `"\?"`, `"\A"`, `"\E"`, `"\l"`, `"\p"`, `"\T"`, "\"\\\t\"", "\"\\\x00\"", "\"\\\u00e9\"", "\"\\\u0085\"", "\"\\\u00a0\"", "\"\\\xff\"",
	} {
		if value, n, ok := Take([]byte(s)); value != "" || n != 0 || ok {
			t.Errorf("Take(%q): %q %d %v", s, value, n, ok)
		}
	}
	if value, n, ok := Take(nil); value != "" || n != 0 || ok {
		t.Error(value, n, ok)
	}
}

// P6.2
func TestPutOfExamples(t *testing.T) {
	for _, c := range [][2]string{
		{"a\n", `"a\n"`}, {"", `""`}, {"a", `"a"`}, {" ", `" "`}, {" a ", `" a "`}, {"it's", `"it's"`}, {"a/b", `"a/b"`}, {"\"", `"\""`}, {"\\", `"\\"`}, {"\\n", `"\\n"`}, {"\"a\"", `"\"a\""`}, {"\\\"", `"\\\""`},
		{"\x00\x07\x08\x09\x0a\x0b\x0c\x0d\x1b", `"\0\a\b\t\n\v\f\r\e"`}, {"\u0085\u00a0\u2028\u2029", `"\N\_\L\P"`}, {"a\r\nb", `"a\r\nb"`}, {"\x001", `"\01"`},
		{"\x01\x06\x0e\x1a\x1c\x1f", `"\x01\x06\x0E\x1A\x1C\x1F"`}, {"\x7f\u0080\u0084\u0086\u009f", `"\x7F\x80\x84\x86\x9F"`}, {"\ufeff\ufffe\uffff", `"\uFEFF\uFFFE\uFFFF"`}, {"a\ufeffb", `"a\uFEFFb"`},
		{"~\u00a1\u00e9\u00ff\u0100", "\"~\u00a1\u00e9\u00ff\u0100\""}, {"\u2027\u202a\ud7ff\ue000\ufefe\uff00\ufffd", "\"\u2027\u202a\ud7ff\ue000\ufefe\uff00\ufffd\""}, {"\U00010000\U0001FFFE\U0010FFFF", "\"\U00010000\U0001FFFE\U0010FFFF\""},
		{"a: b # c", `"a: b # c"`}, {"---", `"---"`},
	} {
		if got, ok := Put(c[0]); got != c[1] || !ok {
			t.Errorf("Put(%q): %q %v", c[0], got, ok)
		}
	}
}

// P6.2, R3
func TestPutRefuses(t *testing.T) {
	for _, s := range []string{
		"\xff", "a\xff", "\x80", "a\x80b", "\xc2", "a\xe4\xb8", "\xe4\xb8a", "\xc0\x80", "\xc0\x8a", "\xc1\xbf", "\xe0\x80\x8a", "\xed\xa0\x80", "\xed\xbf\xbf", "\xf0\x9f\x98", "\xf4\x90\x80\x80", "\xf8\x88\x80\x80\x80", "\"\xff", "\n\xff", "\xff\n", "\x00\x85",
	} {
		if got, ok := Put(s); got != "" || ok {
			t.Errorf("Put(%q): %q %v", s, got, ok)
		}
	}
}

// P6.2, P6.1: each rune is written as it is asked, and read again.
func TestPutOfEveryRune(t *testing.T) {
	for r := rune(0); r <= 0x10FFFF; r++ {
		if r >= 0xD800 && r <= 0xDFFF {
			continue
		}
		s := "a" + string(r) + "b"
		samePut(t, s)
		text, _ := Put(s)
		if value, n, ok := Take([]byte(text)); value != s || n != len(text) || !ok {
			t.Fatalf("Take(%q): %q %d %v", text, value, n, ok)
		}
	}
}

// P6.2: all runes above 65535 are Printable, so no string leads there.
func TestLongEscape(t *testing.T) {
	for r, want := range map[rune]string{0xFFFF: `\uFFFF`, 0x110000: `\U00110000`, 0x7FFFFFFF: `\U7FFFFFFF`} {
		if got := written(r); got != want {
			t.Errorf("%x: %q", r, got)
		}
	}
}

// P6.2
func TestHex(t *testing.T) {
	for _, c := range []struct {
		n      uint32
		digits int
		want   string
	}{
		{0, 0, ""}, {0, 1, "0"}, {0, 8, "00000000"}, {9, 1, "9"}, {10, 1, "A"}, {15, 1, "F"}, {16, 1, "0"}, {16, 2, "10"}, {255, 2, "FF"}, {255, 4, "00FF"}, {256, 2, "00"},
		{0x89ABCDEF, 8, "89ABCDEF"}, {0x89ABCDEF, 7, "9ABCDEF"}, {0x12345678, 3, "678"}, {0xFFFFFFFF, 8, "FFFFFFFF"}, {0xFFFFFFFF, 1, "F"}, {0x80000000, 8, "80000000"}, {0x80000000, 7, "0000000"},
		{5, 9, ""}, {5, 16, ""}, {5, -1, ""}, {5, -8, ""}, {5, 1<<63 - 1, ""}, {5, -1 << 63, ""}, {5, 1 << 32, ""}, {5, 1<<32 + 2, ""},
	} {
		if got := Hex(c.n, c.digits); got != c.want {
			t.Errorf("Hex(%x, %d): %q", c.n, c.digits, got)
		}
	}
}

// P6.2
func TestHexOfManyNumbers(t *testing.T) {
	for i := range 1 << 16 {
		n := uint32(i) * 0x9E3779B1
		all := fmt.Sprintf("%08X", n)
		for digits := range 9 {
			if got := Hex(n, digits); got != all[8-digits:] {
				t.Fatalf("Hex(%x, %d): %q", n, digits, got)
			}
		}
	}
}

// P6.1, P6.2: signs in every order.
func TestEveryShortText(t *testing.T) {
	eachText(5, []string{"\"", "\\", "a", "x", "0", " ", "\n", "\r", "\xff"}, func(s string) {
		sameTake(t, s)
		sameTake(t, "\""+s+"\"")
		samePut(t, s)
	})
	eachText(8, []string{"\"", "\\", "n"}, func(s string) {
		sameTake(t, "\""+s)
		samePut(t, s)
	})
	eachText(4, []string{`\u`, `\U000`, `\x`, "D8", "00", "1", "\"", "g"}, func(s string) { sameTake(t, "\""+s+"\"") })
}

// P6.1, P6.2: every byte in every place where one may count.
func TestEveryByte(t *testing.T) {
	for i := range 256 {
		c := string([]byte{byte(i)})
		for _, ahead := range []string{"", "\"", "\"a", "\"\\", "\"\\\\", "\"\\x", "\"\\x4", "\"\\u00E", "\"\\U0001F60", "\"a\"", "\"\\\""} {
			for _, behind := range []string{"", "\"", "\"\"", "\\\"", "b\"", "41\"", "\n\"", "\"\n"} {
				sameTake(t, ahead+c+behind)
				samePut(t, ahead+c+behind)
			}
		}
		for j := range 256 {
			pair := c + string([]byte{byte(j)})
			sameTake(t, "\""+pair+"\"")
			sameTake(t, "\"\\"+pair+"\"")
			sameTake(t, "\"\\x"+pair+"\"")
			samePut(t, pair)
		}
	}
}

// P6.1, P6.2: what Put writes is read again as it was, whatever stands behind.
func TestTakeReadsWhatPutWrites(t *testing.T) {
	eachText(5, []string{"\"", "\\", "a", "0", "x", "\n", "\x00", "\u0085", "\ufeff", "\U0001F600"}, func(s string) {
		text, ok := Put(s)
		if !ok {
			t.Fatalf("Put(%q)", s)
		}
		for _, behind := range []string{"", " \"", ": x", "\n", "\\"} {
			if value, n, ok := Take([]byte(text + behind)); value != s || n != len(text) || !ok {
				t.Fatalf("Take(%q): %q %d %v", text+behind, value, n, ok)
			}
		}
	})
}

// R1: the limits of a text are not these calls' business, and long ones end soon.
func TestLongTexts(t *testing.T) {
	long := strings.Repeat("a\n\"\x01", api.MaxBytes)
	text, ok := Put(long)
	if !ok || len(text) != 9*api.MaxBytes+2 {
		t.Fatal(len(text), ok)
	}
	if value, n, ok := Take([]byte(text)); value != long || n != len(text) || !ok {
		t.Error(n, ok)
	}
	if value, n, ok := Take([]byte(text[:len(text)-1])); value != "" || n != 0 || ok {
		t.Error(n, ok)
	}
	slashes := []byte("\"" + strings.Repeat("\\", 4*api.MaxBytes) + "\"")
	if value, n, ok := Take(slashes); len(value) != 2*api.MaxBytes || n != len(slashes) || !ok {
		t.Error(len(value), n, ok)
	}
	if value, n, ok := Take(append(slashes[:len(slashes)-1], '\\', '"')); value != "" || n != 0 || ok {
		t.Error(len(value), n, ok)
	}
}

// R4: what is handed in stays and is not kept, and what lies behind the length is not read.
func TestMemory(t *testing.T) {
	b := []byte(`"a\x41\"b" "d"`)
	was := string(b)
	for n := range 10 {
		if value, size, ok := Take(b[:n]); value != "" || size != 0 || ok {
			t.Error(n, value, size, ok)
		}
	}
	if value, n, ok := Take(b[:10]); value != `aA"b` || n != 10 || !ok {
		t.Error(value, n, ok)
	}
	escaped, _, _ := Take(b)
	bare, _, _ := Take(b[11:])
	if string(b) != was {
		t.Errorf("%q", b)
	}
	clear(b)
	if escaped != `aA"b` || bare != "d" {
		t.Errorf("%q %q", escaped, bare)
	}
}
