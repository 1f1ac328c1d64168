package plain

import (
	"slices"
	"strings"
	"testing"
	"unicode/utf8"

	"scholium/api"
)

var parting = []string{",", "[", "]", "{", "}"}

// eachText calls do with every text of at most most pieces.
func eachText(most int, pieces []string, do func(s string)) {
	eachLonger("", most, pieces, do)
}

func eachLonger(s string, more int, pieces []string, do func(s string)) {
	do(s)
	if more == 0 {
		return
	}
	for _, p := range pieces {
		eachLonger(s+p, more-1, pieces, do)
	}
}

// notAhead lists what no plain scalar begins with.
func notAhead(flow bool) []string {
	not := append([]string{"\t", " ", "---", "...", "#", "&", "*", "!", "|", ">", "'", "\"", "%", "@", "`"}, parting...)
	for _, c := range []string{"-", "?", ":"} {
		not = append(not, c+" ", c+"\t")
		for _, p := range parting {
			if flow {
				not = append(not, c+p)
			}
		}
	}
	return not
}

var notInBlock, notInFlow = notAhead(false), notAhead(true)

// startsByRule says by other means what P4.1 asks of Starts.
func startsByRule(s string, flow bool) bool {
	not := notInBlock
	if flow {
		not = notInFlow
	}
	if s == "" || s == "-" || s == "?" || s == ":" {
		return false
	}
	return !slices.ContainsFunc(not, func(p string) bool { return strings.HasPrefix(s, p) })
}

// lengthByRule says by other means what P4.2 asks of Length: the least of the places where it may end.
func lengthByRule(s string, flow bool) int {
	if !startsByRule(s, flow) {
		return 0
	}
	end := len(strings.TrimSuffix(s, ":"))
	stop := func(what string, behind int) {
		if at := strings.Index(s, what); at >= 0 {
			end = min(end, at+behind)
		}
	}
	stop("\t", 0)
	stop(": ", 0)
	stop(":\t", 0)
	stop(" #", 1)
	for _, p := range parting {
		if flow {
			stop(":"+p, 0)
			stop(p, 0)
		}
	}
	return len(strings.TrimRight(s[:end], " "))
}

// validByRule says by other means what P4.3 asks of Valid.
func validByRule(s string, flow bool) bool {
	if s == "" || !utf8.ValidString(s) || lengthByRule(s, flow) != len(s) {
		return false
	}
	return !strings.ContainsFunc(s, func(r rune) bool { return !mayStand(r) })
}

func mayStand(r rune) bool {
	for _, span := range [][2]rune{{32, 126}, {133, 133}, {160, 0xD7FF}, {0xE000, 0xFEFE}, {0xFF00, 0xFFFD}, {0x10000, 0x10FFFF}} {
		if r >= span[0] && r <= span[1] {
			return true
		}
	}
	return false
}

func sameAsByRule(t *testing.T, s string) {
	t.Helper()
	for _, flow := range []bool{false, true} {
		if got, want := Starts([]byte(s), flow), startsByRule(s, flow); got != want {
			t.Fatalf("Starts(%q, %v): %v", s, flow, got)
		}
		if got, want := Length([]byte(s), flow), lengthByRule(s, flow); got != want {
			t.Fatalf("Length(%q, %v): %d, want %d", s, flow, got, want)
		}
		if got, want := Valid(s, flow), validByRule(s, flow); got != want {
			t.Fatalf("Valid(%q, %v): %v", s, flow, got)
		}
	}
}

// P4.1
func TestStartsOfExamples(t *testing.T) {
	for _, c := range []struct {
		s           string
		block, flow bool
	}{
		{"", false, false},
		{"a", true, true}, {"0", true, true}, {"~", true, true}, {"=", true, true}, {"(", true, true}, {"\\", true, true}, {"\u00e9", true, true}, {"a ", true, true},
		{" ", false, false}, {"\t", false, false}, {" a", false, false}, {"\ta", false, false},
		{"---", false, false}, {"--- a", false, false}, {"---a", false, false}, {"----", false, false},
		{"...", false, false}, {"... a", false, false}, {"...a", false, false}, {"....", false, false},
		{"-", false, false}, {"--", true, true}, {"--a", true, true}, {"-- -", true, true}, {"-.-", true, true}, {".", true, true}, {"..", true, true}, {"..a", true, true}, {".. .", true, true},
		{",", false, false}, {"[", false, false}, {"]", false, false}, {"{", false, false}, {"}", false, false}, {"#", false, false}, {"&", false, false}, {"*", false, false}, {"!", false, false}, {"|", false, false}, {">", false, false}, {"'", false, false}, {"\"", false, false}, {"%", false, false}, {"@", false, false}, {"`", false, false},
		{"- a", false, false}, {"-\ta", false, false}, {"-a", true, true}, {"-1", true, true}, {"-#", true, true}, {"-:", true, true},
		{"?", false, false}, {"? a", false, false}, {"?\t", false, false}, {"?a", true, true}, {"??", true, true},
		{":", false, false}, {": a", false, false}, {":\t", false, false}, {":a", true, true}, {"::", true, true},
		{"-,", true, false}, {"-[", true, false}, {"?]", true, false}, {"?{", true, false}, {":}", true, false}, {":,", true, false},
		{"-'", true, true}, {"?\"", true, true}, {":&", true, true}, {"-\u00a0", true, true},
	} {
		if got := Starts([]byte(c.s), false); got != c.block {
			t.Errorf("Starts(%q, false): %v", c.s, got)
		}
		if got := Starts([]byte(c.s), true); got != c.flow {
			t.Errorf("Starts(%q, true): %v", c.s, got)
		}
	}
	if Starts(nil, false) || Starts(nil, true) {
		t.Error("nil")
	}
}

// P4.2
func TestLengthOfExamples(t *testing.T) {
	for _, c := range []struct {
		s           string
		block, flow int
	}{
		{"a: b", 1, 1}, {"a#b #c", 3, 3},
		{"", 0, 0}, {" ", 0, 0}, {"- a", 0, 0}, {"[a]", 0, 0}, {"---", 0, 0},
		{"a", 1, 1}, {"a b c", 5, 5}, {"a  b", 4, 4}, {"a ", 1, 1}, {"a    ", 1, 1}, {"a b  ", 3, 3},
		{"a\t", 1, 1}, {"a\tb", 1, 1}, {"a \tb", 1, 1}, {"a\t #", 1, 1}, {"ab \t", 2, 2},
		{"a:", 1, 1}, {"a: ", 1, 1}, {"a:\t", 1, 1}, {"a :", 1, 1}, {"a  : b", 1, 1}, {"a:b", 3, 3}, {"a:b:", 3, 3}, {"a:b: c", 3, 3}, {"a::", 2, 2}, {"a:: b", 2, 2}, {"a :b", 4, 4}, {"http://x:80/", 12, 12},
		{"a #", 1, 1}, {"a # b", 1, 1}, {"a   #b", 1, 1}, {"a#", 2, 2}, {"a##b", 4, 4}, {"a:#b", 4, 4}, {"a: #b", 1, 1}, {"a :#", 4, 4}, {"-#", 2, 2}, {"- #", 0, 0},
		{"a,b", 3, 1}, {"a, b", 4, 1}, {"a ,b", 4, 1}, {"a[0]", 4, 1}, {"a]", 2, 1}, {"a{b}", 4, 1}, {"a  }", 4, 1},
		{"a:,", 3, 1}, {"a:[", 3, 1}, {"a:]", 3, 1}, {"a:{", 3, 1}, {"a:}", 3, 1}, {"a:b,c", 5, 3},
		{"-:", 1, 1}, {"-: a", 1, 1}, {"?: a", 1, 1}, {"::", 1, 1}, {":: a", 1, 1}, {":a: b", 2, 2}, {"-,a", 3, 0}, {":]: a", 2, 0},
		{"--", 2, 2}, {"--- a", 0, 0}, {"a ---", 5, 5}, {"a ...", 5, 5}, {"--a---", 6, 6}, {"a - b", 5, 5}, {"a ? b", 5, 5},
		{"a&b*c!d|e>f'g\"h%i@j`k", 21, 21}, {"it's", 4, 4}, {"50%", 3, 3}, {"a & *b", 6, 6},
		{"\u00e9\u4e16 x", 7, 7}, {"\U0001F600: x", 4, 4}, {"\u4e16 # x", 3, 3}, {"a\u00a0", 3, 3}, {"a\u00a0#", 4, 4}, {"a:\u00a0b", 5, 5}, {"a\u0085", 3, 3},
	} {
		if got := Length([]byte(c.s), false); got != c.block {
			t.Errorf("Length(%q, false): %d, want %d", c.s, got, c.block)
		}
		if got := Length([]byte(c.s), true); got != c.flow {
			t.Errorf("Length(%q, true): %d, want %d", c.s, got, c.flow)
		}
	}
	if Length(nil, false) != 0 || Length(nil, true) != 0 {
		t.Error("nil")
	}
}

// P4.3
func TestValidOfExamples(t *testing.T) {
	for _, c := range []struct {
		s           string
		block, flow bool
	}{
		{"a", true, true}, {"a b", true, true}, {"a:b", true, true}, {"a#b", true, true}, {"-1", true, true}, {"~", true, true}, {"null", true, true}, {"\u0085x", true, true}, {"\u00a0", true, true}, {"\u4e16\U0001F600", true, true}, {"\ufffd", true, true},
		{"a,b", true, false}, {"a[0]", true, false}, {"a}", true, false}, {"a:]", true, false}, {"-,", true, false},
		{"", false, false}, {" ", false, false}, {"a ", false, false}, {" a", false, false}, {"a: b", false, false}, {"a:", false, false}, {"a #b", false, false}, {"- a", false, false}, {"-", false, false}, {"---", false, false}, {"...", false, false}, {"---a", false, false}, {"'a'", false, false}, {"[a]", false, false},
		{"\t", false, false}, {"a\tb", false, false}, {"a\t", false, false}, {"a\n", false, false}, {"a\nb", false, false}, {"\na", false, false}, {"a\r", false, false}, {"a\r\nb", false, false}, {"\ra", false, false},
		{"\xff", false, false}, {"a\xe4\xb8", false, false}, {"a\x80b", false, false}, {"\xc0\x80", false, false}, {"\xed\xa0\x80", false, false},
		{"\x00", false, false}, {"a\x01", false, false}, {"a\x7f", false, false}, {"a\u0080", false, false}, {"a\u009f", false, false}, {"\ufeff", false, false}, {"\ufeffa", false, false}, {"a\ufeff", false, false}, {"\ufffe", false, false}, {"\uffff", false, false},
	} {
		if got := Valid(c.s, false); got != c.block {
			t.Errorf("Valid(%q, false): %v", c.s, got)
		}
		if got := Valid(c.s, true); got != c.flow {
			t.Errorf("Valid(%q, true): %v", c.s, got)
		}
	}
}

// P4.1, P4.2, P4.3: signs in every order.
func TestEveryShortText(t *testing.T) {
	signs := []string{"a", " ", "\t", ":", "#", "-", ".", "?", ",", "]", "'", "\u00e9", "\n"}
	eachText(5, signs, func(s string) { sameAsByRule(t, s) })
	eachText(8, []string{"a", " ", ":", "#"}, func(s string) { sameAsByRule(t, s) })
}

// P4.1, P4.2, P4.3: every byte in every place where one may count.
func TestEveryByte(t *testing.T) {
	for i := range 256 {
		c := string([]byte{byte(i)})
		for _, ahead := range []string{"", "-", "?", ":", "--", "..", "a", "a:", "a ", "a b"} {
			for _, behind := range []string{"", " ", "a", "#", ":", ",", " b", ": b"} {
				sameAsByRule(t, ahead+c+behind)
			}
		}
		for j := range 256 {
			sameAsByRule(t, c+string([]byte{byte(j)}))
		}
	}
}

// P4.3
func TestValidOfEveryRune(t *testing.T) {
	for r := rune(0); r <= 0x10FFFF; r++ {
		if r >= 0xD800 && r <= 0xDFFF {
			continue
		}
		s := "a" + string(r) + "b"
		if got := Valid(s, false); got != mayStand(r) {
			t.Fatalf("Valid(%q): %v", s, got)
		}
	}
}

// P4.1, P4.2: there is a scalar just where one may begin.
func TestLengthAndStartsAgree(t *testing.T) {
	eachText(5, []string{"a", " ", "\t", ":", "#", "-", ".", ",", "}"}, func(s string) {
		for _, flow := range []bool{false, true} {
			b := []byte(s)
			n := Length(b, flow)
			if n < 0 || n > len(b) || Starts(b, flow) != (n > 0) {
				t.Fatalf("Length(%q, %v): %d", s, flow, n)
			}
		}
	})
}

// R1: the limits of a text are not these calls' business, and long ones end soon.
func TestLongTexts(t *testing.T) {
	long := strings.Repeat("a", 4*api.MaxBytes)
	if got := Length([]byte(long), true); got != len(long) || !Valid(long, true) {
		t.Error(got)
	}
	blanks := strings.Repeat(" ", 4*api.MaxBytes)
	if got := Length([]byte("a"+blanks), false); got != 1 || Valid("a"+blanks, false) {
		t.Error(got)
	}
	colons := "a" + strings.Repeat(":", 4*api.MaxBytes)
	if got := Length([]byte(colons), false); got != len(colons)-1 || Valid(colons, false) {
		t.Error(got)
	}
}

// R4: what is handed in stays, and what lies behind the length is not read.
func TestMemory(t *testing.T) {
	b := []byte("a:b -c --- d")
	was := string(b)
	if got := Length(b[:2], false); got != 1 {
		t.Error(got)
	}
	if Starts(b[4:5], false) || !Starts(b[4:6], false) {
		t.Error("Starts")
	}
	if !Starts(b[7:9], false) || Starts(b[7:10], false) {
		t.Error("Starts of a document's mark")
	}
	if string(b) != was {
		t.Errorf("%q", b)
	}
}
