package style

import (
	"strings"
	"testing"
	"unicode/utf8"

	"scholium/api"
	"scholium/double"
	"scholium/plain"
	"scholium/schema"
)

// read is the tag and the value that a scalar's text is read as, by what reads scalars; false: it is none, or not all of it is.
func read(text string, flow bool) (tag, value string, ok bool) {
	if i := strings.Index(text, " \""); strings.HasPrefix(text, "!") && i > 0 {
		_, value, ok = read(text[i+1:], flow)
		return text[:i], value, ok
	}
	if strings.HasPrefix(text, "\"") {
		value, n, taken := double.Take([]byte(text))
		return "!!str", value, taken && n == len(text)
	}
	n := plain.Length([]byte(text), flow)
	return schema.Resolve(text), text, n > 0 && n == len(text)
}

// oneLine tells whether text is UTF-8 that needs no second line.
func oneLine(text string) bool {
	return utf8.ValidString(text) && !strings.ContainsAny(text, "\n\r")
}

// readAgain holds each call against what is read of its answer.
func readAgain(t *testing.T, s string, flow bool) {
	t.Helper()
	text := Choose(s, flow)
	if !utf8.ValidString(s) {
		if key, ok := Key(s, flow); text != "" || key != "" || ok {
			t.Fatalf("%q, %v: Choose %q, Key %q %v", s, flow, text, key, ok)
		}
		for _, tag := range []string{"!!str", "!!int", "!x", "!", ""} {
			if best, ok := Best(tag, s, flow); best != "" || ok {
				t.Fatalf("Best(%q, %q, %v): %q %v", tag, s, flow, best, ok)
			}
		}
		return
	}
	if tag, value, ok := read(text, flow); !ok || tag != "!!str" || value != s || !oneLine(text) {
		t.Fatalf("Choose(%q, %v): %q, read as %q %q %v", s, flow, text, tag, value, ok)
	}
	want := text
	if len(text) > 128 {
		want = ""
	}
	if key, ok := Key(s, flow); key != want || ok != (want != "") {
		t.Fatalf("Key(%q, %v): %q %v", s, flow, key, ok)
	}
	if best, ok := Best("!!str", s, flow); best != text || !ok {
		t.Fatalf("Best of !!str and %q, %v: %q %v", s, flow, best, ok)
	}
	for _, want := range []string{"!!null", "!!bool", "!!int", "!!float", "!!seq", "!x", "!"} {
		best, ok := Best(want, s, flow)
		if !ok || !oneLine(best) {
			t.Fatalf("Best(%q, %q, %v): %q %v", want, s, flow, best, ok)
		}
		if tag, value, ok := read(best, flow); !ok || tag != want || value != s {
			t.Fatalf("Best(%q, %q, %v): %q, read as %q %q %v", want, s, flow, best, tag, value, ok)
		}
	}
}

// eachText calls do with every text of at most most pieces.
func eachText(most int, pieces []string, do func(s string)) {
	eachLonger("", most, pieces, do)
}

func eachLonger(s string, more int, pieces []string, do func(s string)) {
	do(s)
	if more == 0 {
		return
	}
	for _, p := range pieces {
		eachLonger(s+p, more-1, pieces, do)
	}
}

// P9.1: the chapter's example.
func TestExample(t *testing.T) {
	for _, flow := range []bool{false, true} {
		if got := Choose("true", flow); got != `"true"` {
			t.Error(flow, got)
		}
	}
}

// P9.1
func TestChooseItself(t *testing.T) {
	for _, s := range []string{"a", "A", "a b", "a  b", "it's", "a\"b", "a\\b", "a\\nb", "a#b", "a:b", "a::b", ":a", "?a", "-a", "--", "--a", "-.", ".", "..", "-:a", "::a", "yes", "no", "on", "nul", "nulll", "tRUE", "1a", "0o8", "0xg", "-0x1", "1e", "1.2.3", "-.nan", "2026-11-18", "a!", "a&b", "a*", "a|", "a>", "a%", "a@", "a`", "a'", "a\"", "<<", "=", "$a", "(a)", "a---", "a...", "\u00e9", "\u4e16\u754c", "a\u00a0b", "\u0085", "\u2028", "\U0001F600", "\u0661"} {
		for _, flow := range []bool{false, true} {
			if got := Choose(s, flow); got != s {
				t.Errorf("Choose(%q, %v): %q", s, flow, got)
			}
		}
	}
}

// P9.1: what is parted in flow alone.
func TestChooseByFlow(t *testing.T) {
	for _, s := range []string{"a,", "a, b", "a,b", "a]", "a[b]", "a}", "a{b", "-,", "?]", ":}", "-[", "a:,b", "a:]", "x{}"} {
		if got := Choose(s, false); got != s {
			t.Errorf("Choose(%q, false): %q", s, got)
		}
		if got, want := Choose(s, true), `"`+s+`"`; got != want {
			t.Errorf("Choose(%q, true): %q", s, got)
		}
	}
}

// P9.1: what would be something else, or a part of it, without quotes.
func TestChooseQuotes(t *testing.T) {
	for _, s := range []string{"", " ", " a", "a ", "-", "?", ":", "- a", "? a", ": a", "a:", "-:", "a: b", "a #b", "a #", "#", "#a", "---", "---a", "--- a", "...", "....", "... a", ",", ",a", "[", "[]", "]", "{", "{}", "}", "&a", "*a", "!a", "!!str", "|", ">", ">-", "'a'", "'", "%", "@a", "`a`", "~", "null", "Null", "NULL", "true", "False", "FALSE", "0", "12", "-12", "+1", "0o7", "0xfF", "1.", "1.5", ".5", "-.5e3", "1e3", ".inf", "-.INF", ".nan", ".NaN"} {
		for _, flow := range []bool{false, true} {
			if got, want := Choose(s, flow), `"`+s+`"`; got != want {
				t.Errorf("Choose(%q, %v): %q", s, flow, got)
			}
		}
	}
}

// P9.1
func TestChooseEscapes(t *testing.T) {
	for _, c := range []struct{ s, want string }{
		{"a\nb", `"a\nb"`}, {"\n", `"\n"`}, {"\r", `"\r"`}, {"\r\n", `"\r\n"`}, {"\t", `"\t"`}, {"a\tb", `"a\tb"`}, {"a\t", `"a\t"`},
		{"\x00", `"\0"`}, {"a\x00", `"a\0"`}, {"\x01", `"\x01"`}, {"a\x7f", `"a\x7F"`}, {"\u0080", `"\x80"`}, {"a\ufeff", `"a\uFEFF"`}, {"\ufffe", `"\uFFFE"`}, {"\uffff", `"\uFFFF"`},
		{`"`, `"\""`}, {`"a"`, `"\"a\""`}, {`a: "\"`, `"a: \"\\\""`}, {` \`, `" \\"`}, {"a\n\u0085\u00a0\u2028\u2029\u00e9", `"a\n\N\_\L\P` + "\u00e9" + `"`},
	} {
		for _, flow := range []bool{false, true} {
			if got := Choose(c.s, flow); got != c.want {
				t.Errorf("Choose(%q, %v): %q, want %q", c.s, flow, got, c.want)
			}
		}
	}
}

// P9.1, P9.2: what is not UTF-8 can't be written at all.
func TestNotUTF8(t *testing.T) {
	for _, s := range []string{"\xff", "a\xff", "\xffa", "a\x80b", "\xc3", "a\xc3", "\xc0\x80", "\xe0\x80\x80", "\xed\xa0\x80", "\xed\xbf\xbf", "\xf4\x90\x80\x80", "\xf0\x9f\x98", "true\xff", "\n\xff", " \xfe "} {
		for _, flow := range []bool{false, true} {
			readAgain(t, s, flow)
			if got := Choose(s, flow); got != "" {
				t.Errorf("Choose(%q, %v): %q", s, flow, got)
			}
		}
	}
}

// P9.2: the bytes of what is written count, quotes and escapes among them.
func TestKeyLength(t *testing.T) {
	for _, c := range []struct {
		piece string
		most  int
	}{
		{"a", 128}, {"\u00e9", 64}, {"\U0001F600", 32}, {" ", 126}, {"1", 126}, {"-", 126}, {"#", 126}, {"\n", 63}, {"\"", 63}, {"\x01", 31}, {"\ufeff", 21}, {"\u2028\n", 31},
	} {
		for n := range 140 {
			s := strings.Repeat(c.piece, n)
			key, ok := Key(s, false)
			if want := n <= c.most; ok != want || ok && key != Choose(s, false) || !ok && key != "" {
				t.Errorf("Key of %d times %q: %q %v", n, c.piece, key, ok)
			}
		}
	}
}

// P9.2: a text may be a key outside of flow, and too long within it.
func TestKeyLengthByFlow(t *testing.T) {
	for n, want := range map[int]bool{125: true, 126: false, 127: false} {
		s := "a," + strings.Repeat("b", n-1)
		if key, ok := Key(s, false); key != s || !ok {
			t.Error(n, key, ok)
		}
		if key, ok := Key(s, true); ok != want || (key == `"`+s+`"`) != want || (key == "") == want {
			t.Error(n, key, ok)
		}
	}
}

// P9.2
func TestKeyOfExamples(t *testing.T) {
	for _, c := range []struct{ s, block, flow string }{
		{"a", "a", "a"}, {"", `""`, `""`}, {"true", `"true"`, `"true"`}, {"a b", "a b", "a b"}, {"a: b", `"a: b"`, `"a: b"`}, {"a,b", "a,b", `"a,b"`}, {"1", `"1"`, `"1"`}, {"a\n", `"a\n"`, `"a\n"`}, {"it's", "it's", "it's"},
	} {
		if got, ok := Key(c.s, false); got != c.block || !ok {
			t.Errorf("Key(%q, false): %q %v", c.s, got, ok)
		}
		if got, ok := Key(c.s, true); got != c.flow || !ok {
			t.Errorf("Key(%q, true): %q %v", c.s, got, ok)
		}
	}
}

// P9.2: a value that has its tag by itself stands alone.
func TestBestItself(t *testing.T) {
	for _, c := range []struct{ tag, value string }{
		{"!!null", "~"}, {"!!null", "null"}, {"!!null", "NULL"}, {"!!bool", "true"}, {"!!bool", "FALSE"},
		{"!!int", "0"}, {"!!int", "-12"}, {"!!int", "+1"}, {"!!int", "0o7"}, {"!!int", "0xfF"},
		{"!!float", "1."}, {"!!float", "-.5"}, {"!!float", "1e3"}, {"!!float", ".inf"}, {"!!float", "-.INF"}, {"!!float", ".nan"},
		{"!!str", "a"}, {"!!str", "it's"},
	} {
		for _, flow := range []bool{false, true} {
			if got, ok := Best(c.tag, c.value, flow); got != c.value || !ok {
				t.Errorf("Best(%q, %q, %v): %q %v", c.tag, c.value, flow, got, ok)
			}
		}
	}
}

// P9.2: all else has its tag ahead of it, and quotes; but for !!str, which quotes alone are.
func TestBestTagged(t *testing.T) {
	for _, c := range []struct{ tag, value, want string }{
		{"!!null", "", `!!null ""`}, {"!!null", "nULL", `!!null "nULL"`}, {"!!null", "0", `!!null "0"`}, {"!!null", " ", `!!null " "`},
		{"!!bool", "yes", `!!bool "yes"`}, {"!!bool", "1", `!!bool "1"`}, {"!!bool", "", `!!bool ""`}, {"!!bool", "true ", `!!bool "true "`},
		{"!!int", "x", `!!int "x"`}, {"!!int", "1.0", `!!int "1.0"`}, {"!!int", "1\n", `!!int "1\n"`}, {"!!int", "", `!!int ""`},
		{"!!float", "1", `!!float "1"`}, {"!!float", "0x1", `!!float "0x1"`}, {"!!float", "-.nan", `!!float "-.nan"`},
		{"!!seq", "a", `!!seq "a"`}, {"!!map", "", `!!map ""`}, {"!!binary", "a=", `!!binary "a="`}, {"!x", "a", `!x "a"`}, {"!x", "true", `!x "true"`}, {"!x", "\"\\", `!x "\"\\"`}, {"!", "a", `! "a"`}, {"!str", "a", `!str "a"`}, {"!!STR", "a", `!!STR "a"`}, {"", "a", ` "a"`}, {"str", "a", `str "a"`},
		{"!!str", "", `""`}, {"!!str", "1", `"1"`}, {"!!str", "~", `"~"`}, {"!!str", "a: b", `"a: b"`}, {"!!str", "\x00", `"\0"`},
	} {
		for _, flow := range []bool{false, true} {
			if got, ok := Best(c.tag, c.value, flow); got != c.want || !ok {
				t.Errorf("Best(%q, %q, %v): %q %v, want %q", c.tag, c.value, flow, got, ok, c.want)
			}
		}
	}
}

// P9.2
func TestBestByFlow(t *testing.T) {
	if got, ok := Best("!!str", "a,b", false); got != "a,b" || !ok {
		t.Error(got, ok)
	}
	if got, ok := Best("!!str", "a,b", true); got != `"a,b"` || !ok {
		t.Error(got, ok)
	}
}

// P9.2: MaxKey is a bound of keys alone.
func TestLongTexts(t *testing.T) {
	long := strings.Repeat("9", 4*api.MaxBytes)
	for _, flow := range []bool{false, true} {
		if got := Choose(long, flow); got != `"`+long+`"` {
			t.Error("Choose", len(got))
		}
		if got, ok := Best("!!int", long, flow); got != long || !ok {
			t.Error("Best", len(got), ok)
		}
		if got, ok := Best("!!str", "a"+long, flow); got != "a"+long || !ok {
			t.Error("Best", len(got), ok)
		}
		if got, ok := Key("a"+long, flow); got != "" || ok {
			t.Error("Key", len(got), ok)
		}
	}
}

// P9.1, P9.2: quotes only where without them something else would be read.
func TestQuotesAreNeeded(t *testing.T) {
	pieces := []string{"a", "1", "-", ".", ":", "#", " ", ",", "]", "~", "e", "\t", "\n", "'", "\"", "\\", "\u00e9", "\ufeff", "\x00"}
	for _, flow := range []bool{false, true} {
		eachText(4, pieces, func(s string) {
			tag, value, ok := read(s, flow)
			bare := ok && value == s && oneLine(s) && !strings.ContainsAny(s, "\x00\ufeff")
			if got, want := Choose(s, flow) == s, bare && tag == "!!str"; got != want {
				t.Fatalf("Choose(%q, %v): %q", s, flow, Choose(s, flow))
			}
			for _, asked := range []string{"!!null", "!!int", "!!float", "!x"} {
				best, _ := Best(asked, s, flow)
				if got, want := best == s, bare && tag == asked; got != want {
					t.Fatalf("Best(%q, %q, %v): %q", asked, s, flow, best)
				}
			}
		})
	}
}

// P9.1, P9.2: what is written is read as what was asked for.
func TestReadAgain(t *testing.T) {
	for _, flow := range []bool{false, true} {
		again := func(s string) { readAgain(t, s, flow) }
		eachText(4, []string{"a", "1", "-", "?", ":", ".", "#", " ", ",", "[", "}", "!", "&", "\"", "\\", "\n", "\xff"}, again)
		eachText(3, []string{"true", "null", "~", ".inf", ".nan", "0x", "0o", "7", "f", "e", "+", "---", "...", "'", "|", ">", "%", "@", "`", "*", "\t", "\r", "\x00", "\u0085", "\u2028", "\u00a0", "\ufeff"}, again)
	}
}

// P9.1, P9.2: every byte, alone and beside others.
func TestEveryByte(t *testing.T) {
	for _, flow := range []bool{false, true} {
		for i := range 256 {
			c := string([]byte{byte(i)})
			for _, ahead := range []string{"", "a", "a ", "1", "-", ":"} {
				for _, behind := range []string{"", "a", " a", "1", ":"} {
					readAgain(t, ahead+c+behind, flow)
				}
			}
			for j := range 256 {
				readAgain(t, c+string([]byte{byte(j)}), flow)
			}
		}
	}
}

// P9.1: every rune that is not ASCII stands as it is, just where it may stand in a text.
func TestEveryRune(t *testing.T) {
	for r := rune(128); r <= 0x10FFFF; r++ {
		if r >= 0xD800 && r <= 0xDFFF {
			continue
		}
		s := string(r)
		printable := r == 133 || r > 159 && r != 0xFEFF && r != 0xFFFE && r != 0xFFFF
		if got := Choose(s, false); (got == s) != printable {
			t.Fatalf("Choose(%q): %q", s, got)
		}
		if _, value, ok := read(Choose(s, true), true); !ok || value != s {
			t.Fatalf("Choose(%q): %q", s, Choose(s, true))
		}
	}
}

// R5: what was asked before does not count.
func TestAskedAgain(t *testing.T) {
	for range 3 {
		for _, s := range []string{"", "a", "1", "a,b", "true", "\xff", "\n", strings.Repeat("a", 129)} {
			readAgain(t, s, false)
			readAgain(t, s, true)
		}
	}
}
