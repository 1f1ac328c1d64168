package schema

import (
	"regexp"
	"strings"
	"testing"

	"scholium/api"
)

var (
	nullForm  = regexp.MustCompile(`\A(?:null|Null|NULL|~|)\z`)
	boolForm  = regexp.MustCompile(`\A(?:true|True|TRUE|false|False|FALSE)\z`)
	intForm   = regexp.MustCompile(`\A(?:[-+]?[0-9]+|0o[0-7]+|0x[0-9a-fA-F]+)\z`)
	floatForm = regexp.MustCompile(`\A(?:[-+]?(?:\.inf|\.Inf|\.INF|(?:[0-9]+(?:\.[0-9]*)?|\.[0-9]+)(?:[eE][-+]?[0-9]+)?)|\.nan|\.NaN|\.NAN)\z`)
)

// resolveByRule says by other means what P8.1 asks of Resolve.
func resolveByRule(s string) string {
	for _, c := range []struct {
		form *regexp.Regexp
		tag  string
	}{{nullForm, "!!null"}, {boolForm, "!!bool"}, {intForm, "!!int"}, {floatForm, "!!float"}} {
		if c.form.MatchString(s) {
			return c.tag
		}
	}
	return "!!str"
}

func sameAsByRule(t *testing.T, s string) {
	t.Helper()
	if got, want := Null(s), nullForm.MatchString(s); got != want {
		t.Fatalf("Null(%q): %v", s, got)
	}
	if got, want := Bool(s), boolForm.MatchString(s); got != want {
		t.Fatalf("Bool(%q): %v", s, got)
	}
	if got, want := Int(s), intForm.MatchString(s); got != want {
		t.Fatalf("Int(%q): %v", s, got)
	}
	if got, want := Float(s), floatForm.MatchString(s); got != want {
		t.Fatalf("Float(%q): %v", s, got)
	}
	if got, want := Resolve(s), resolveByRule(s); got != want {
		t.Fatalf("Resolve(%q): %q, want %q", s, got, want)
	}
}

// eachText calls do with every text of at most most pieces.
func eachText(most int, pieces []string, do func(s string)) {
	eachLonger("", most, pieces, do)
}

func eachLonger(s string, more int, pieces []string, do func(s string)) {
	do(s)
	if more == 0 {
		return
	}
	for _, p := range pieces {
		eachLonger(s+p, more-1, pieces, do)
	}
}

// eachCase calls do with s in every way of small and great letters.
func eachCase(s string, do func(s string)) {
	for ways := range 1 << len(s) {
		b := []byte(strings.ToLower(s))
		for i, c := range b {
			if ways>>i&1 > 0 && c >= 'a' && c <= 'z' {
				b[i] = c - 'a' + 'A'
			}
		}
		do(string(b))
	}
}

// words are all that is written out whole.
func words() []string {
	return []string{"", "~", "null", "Null", "NULL", "true", "True", "TRUE", "false", "False", "FALSE", ".inf", ".Inf", ".INF", ".nan", ".NaN", ".NAN"}
}

// P8.1: the chapter's example.
func TestExample(t *testing.T) {
	if got := Resolve("1.5"); got != "!!float" {
		t.Error(got)
	}
}

// P8.1
func TestNullOfExamples(t *testing.T) {
	for _, s := range []string{"", "~", "null", "Null", "NULL"} {
		if !Null(s) || Resolve(s) != "!!null" {
			t.Errorf("%q", s)
		}
	}
	for _, s := range []string{" ", "\n", "\x00", "~~", "~ ", " ~", "-~", "nULL", "nuLL", "NUll", "nul", "nulll", "null ", " null", "null\n", "nil", "none", "None", "void", "''", "\"\"", "!!null", "0", "false"} {
		if Null(s) || Resolve(s) == "!!null" {
			t.Errorf("%q", s)
		}
	}
}

// P8.1
func TestBoolOfExamples(t *testing.T) {
	for _, s := range []string{"true", "True", "TRUE", "false", "False", "FALSE"} {
		if !Bool(s) || Resolve(s) != "!!bool" {
			t.Errorf("%q", s)
		}
	}
	for _, s := range []string{"", "tRUE", "TrUe", "truE", "fALSE", "FaLse", "falsE", "tru", "truee", "fals", "falsee", "t", "f", "T", "F", "yes", "Yes", "YES", "no", "No", "on", "On", "off", "OFF", "y", "n", "Y", "N", "0", "1", "true ", " true", "true\n", "+true", "-false", "truefalse"} {
		if Bool(s) || Resolve(s) == "!!bool" {
			t.Errorf("%q", s)
		}
	}
}

// P8.1
func TestIntOfExamples(t *testing.T) {
	for _, s := range []string{"0", "1", "9", "00", "007", "08", "-0", "+0", "-5", "+12", "-00", "123456789012345678901234567890", "-9223372036854775809", "0o0", "0o7", "0o17", "0o01234567", "0x0", "0x9", "0xa", "0xF", "0x1F", "0xabcdefABCDEF", "0x0123456789abcdef0", "0xe", "0x1e5"} {
		if !Int(s) || Resolve(s) != "!!int" {
			t.Errorf("%q", s)
		}
	}
	for _, s := range []string{"", "-", "+", "--1", "++1", "+-1", "-+1", "1-", "1+", "- 1", "1 ", " 1", "1\n", "1_000", "1,000", "1a", "a1", "0o", "0o8", "0o9", "0o1a", "0o 1", "0o-1", "0o+1", "-0o1", "+0o1", "0O1", "00o1", "1o1", "o1", "0x", "0xg", "0xG", "0x 1", "0x-1", "-0x1", "+0x1", "0X1", "00x1", "1x1", "x1", "0x1.", "0x1_0", "0b1", "0B1", "0o0o1", "0x0x1", "1.", "1.0", ".1", "1e1", "0o1e1", "\u0661", "\u2212\u0031", "\uff11", "1\u0661", "0x\uff21", "\xff", "1\xff", "0x\xff", "1\x00", "\x00"} {
		if Int(s) || Resolve(s) == "!!int" {
			t.Errorf("%q", s)
		}
	}
}

// P8.1: a number with digits of ten is a Float, too, and an !!int nonetheless.
func TestFloatOfExamples(t *testing.T) {
	for _, s := range []string{".inf", ".Inf", ".INF", "-.inf", "-.Inf", "-.INF", "+.inf", "+.Inf", "+.INF", ".nan", ".NaN", ".NAN", "1.", "1.5", "-1.", "+1.5", "00.00", ".5", "-.5", "+.5", ".0", "1e3", "+1e3", "1E-3", "1e+3", "1.e5", "0.0e+10", ".5e1", "-.5E-01", "00e00", "1e999999999", "3.14159265358979323846264338327950288"} {
		if !Float(s) || Resolve(s) != "!!float" {
			t.Errorf("%q", s)
		}
	}
	for _, s := range []string{"0", "00", "12", "-12", "+12", "9999999999999999999999"} {
		if !Float(s) || Resolve(s) != "!!int" {
			t.Errorf("%q", s)
		}
	}
	for _, s := range []string{"0o17", "0x1", "0x1e5"} {
		if Float(s) || Resolve(s) != "!!int" {
			t.Errorf("%q", s)
		}
	}
}

// P8.1
func TestFloatRefuses(t *testing.T) {
	for _, s := range []string{"-", "+", ".", "-.", "+.", "..", "..5", "5..", "1.2.3", "1..2", "e", "E", "e5", "-e5", ".e1", "-.e1", "1e", "1E", "1.e", "1e+", "1e-", "1e+-1", "1e--1", "1e1.", "1e1.5", "1e.5", "1e1e1", "1ee1", "1e 1", "1 e1", "--1.5", "+-1.5", "1.-5", "1.+5", "- .5", " .5", ".5 ", "1.5\n", "1,5", "1.5f", "0x1.8", "0x1p1", "-0x1", "-0o1", "1_0.5", "inf", "-inf", "Inf", "Infinity", ".infinity", ".iNF", ".iNf", ".InF", "--.inf", "-+.inf", ".-inf", ".inf.", ".infe1", ".inf1", "1.inf", "0.inf", ".inf ", "nan", "NaN", ".Nan", ".nAN", ".nAn", ".naN", "-.nan", "+.nan", "-.NaN", "+.NAN", ".nan1", ".nane1", ".nan ", "0.nan", "\u0661.5", "1\u06615", "1\uff0e5", "1.\xff", "\xff1.5", "1.5\x00"} {
		if Float(s) || Resolve(s) != "!!str" {
			t.Errorf("%q: %v %q", s, Float(s), Resolve(s))
		}
	}
	if Float("") || Float("~") || Float("null") || Float("true") {
		t.Error("a null, or a bool")
	}
}

// P8.1
func TestResolveOfTexts(t *testing.T) {
	for _, s := range []string{" ", "a", "a b", "yes", "-", "!!int", "!!str", "2026-11-18", "1:30", "1.2.3", "\u00e9", "\u4e16", "\xff", "\x00", "'1'", "\"1\"", "<<", "="} {
		if got := Resolve(s); got != "!!str" {
			t.Errorf("Resolve(%q): %q", s, got)
		}
	}
}

// P8.1: the signs of numbers in every order.
func TestEveryShortText(t *testing.T) {
	same := func(s string) { sameAsByRule(t, s) }
	eachText(7, []string{"-", "+", ".", "0", "8", "e"}, same)
	eachText(5, []string{"-", "+", ".", "0", "7", "8", "e", "E", "o", "x", "a", "F", "g"}, same)
	eachText(4, []string{"-", "+", ".", "1", "e", ".inf", ".Inf", ".INF", ".nan", ".NaN", ".NAN", "inf", "nan", "null", "true", "FALSE", "~", " "}, same)
}

// P8.1: every byte in every place where one may count.
func TestEveryByte(t *testing.T) {
	for i := range 256 {
		c := string([]byte{byte(i)})
		for _, ahead := range []string{"", "-", "+", ".", "-.", "0", "0o", "0x", "0o7", "0xf", "1", "1.", ".5", "1e", "1.5e", "1e+", "1e5", "n", "~", "nul", "null", "tru", "true", ".in", ".inf", ".na", ".nan"} {
			for _, behind := range []string{"", "1", "7", "f", ".", ".5", "e1", "-1", "inf", ".inf", "nan", ".nan", "ull", "rue", "l", "e", " "} {
				sameAsByRule(t, ahead+c+behind)
			}
		}
		for j := range 256 {
			sameAsByRule(t, c+string([]byte{byte(j)}))
		}
	}
}

// P8.1: of each word just the ways that are named.
func TestEveryCaseOfWords(t *testing.T) {
	for _, w := range []string{"~", "null", "true", "false", ".inf", ".nan", "-.inf", "+.nan", "0x1f", "0o17", "1e5"} {
		eachCase(w, func(s string) { sameAsByRule(t, s) })
	}
}

// P8.1: a word is itself whole, and nothing with a byte more, or less, or another one.
func TestWordsWithAnyOtherByte(t *testing.T) {
	for _, w := range words() {
		for i := range 256 {
			c := string([]byte{byte(i)})
			for at := range len(w) {
				sameAsByRule(t, w[:at]+w[at+1:])
				sameAsByRule(t, w[:at]+c+w[at:])
				sameAsByRule(t, w[:at]+c+w[at+1:])
			}
			sameAsByRule(t, w+c)
		}
	}
}

// P8.1, R6: only bytes of these forms are digits, signs and points, whatever else looks like them.
func TestEveryRune(t *testing.T) {
	for r := rune(128); r <= 0x10FFFF; r++ {
		if r >= 0xD800 && r <= 0xDFFF {
			continue
		}
		for _, s := range []string{string(r), "1" + string(r), "0x" + string(r), "1e" + string(r)} {
			if got := Resolve(s); got != "!!str" {
				t.Fatalf("Resolve(%q): %q", s, got)
			}
		}
	}
}

// P8.1: at most one of Null, Bool and Int holds, and Float beside none but Int.
func TestFormsKeepApart(t *testing.T) {
	eachText(5, []string{"-", ".", "0", "1", "e", "x", "o", "~"}, func(s string) {
		holds := 0
		for _, h := range []bool{Null(s), Bool(s), Int(s) || Float(s)} {
			if h {
				holds++
			}
		}
		if holds > 1 || (holds == 0) != (Resolve(s) == "!!str") {
			t.Fatalf("%q: %d %q", s, holds, Resolve(s))
		}
	})
}

// R1, R6: no number is too long, and long texts end soon.
func TestLongTexts(t *testing.T) {
	nines := strings.Repeat("9", 4*api.MaxBytes)
	for _, c := range []struct{ s, want string }{
		{nines, "!!int"}, {"-" + nines, "!!int"}, {"0x" + nines, "!!int"}, {"0o" + strings.Repeat("7", 4*api.MaxBytes), "!!int"},
		{"0o" + nines, "!!str"}, {nines + "a", "!!str"}, {nines + " ", "!!str"},
		{nines + ".", "!!float"}, {"." + nines, "!!float"}, {nines + "." + nines + "e-" + nines, "!!float"}, {nines + "." + nines + "e-" + nines + "e", "!!str"},
		{strings.Repeat("-", 4*api.MaxBytes), "!!str"}, {strings.Repeat(".", 4*api.MaxBytes), "!!str"}, {strings.Repeat("1e", 4*api.MaxBytes), "!!str"}, {strings.Repeat("null", api.MaxBytes), "!!str"},
	} {
		if got := Resolve(c.s); got != c.want {
			t.Errorf("Resolve of %d bytes: %q, want %q", len(c.s), got, c.want)
		}
	}
}

// R5: what was asked before does not count.
func TestAskedAgain(t *testing.T) {
	for range 3 {
		for _, s := range append(words(), "1", "-0", "0o1", "0xA", ".5", "1e1", "x") {
			sameAsByRule(t, s)
		}
	}
}
