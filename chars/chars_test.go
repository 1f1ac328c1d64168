package chars

import (
	"bytes"
	"strings"
	"testing"
	"unicode/utf8"

	"scholium/api"
)

// runeByLibrary says by other means what P1.1 asks of Rune.
func runeByLibrary(b []byte) (rune, int, bool) {
	r, n := utf8.DecodeRune(b)
	if r == utf8.RuneError && n <= 1 {
		return 0, n, false
	}
	return r, n, true
}

func sameRune(t *testing.T, b []byte) {
	t.Helper()
	r, n, ok := Rune(b)
	if wr, wn, wok := runeByLibrary(b); r != wr || n != wn || ok != wok {
		t.Fatalf("Rune(% x): %x %d %v, want %x %d %v", b, r, n, ok, wr, wn, wok)
	}
}

// P1.1
func TestRuneOfExamples(t *testing.T) {
	for _, c := range []struct {
		s  string
		r  rune
		n  int
		ok bool
	}{
		{"", 0, 0, false},
		{"\x00", 0, 1, true},
		{"ab", 'a', 1, true},
		{"\x7f", 0x7F, 1, true},
		{"\x80", 0, 1, false},
		{"\xbf\xbf", 0, 1, false},
		{"\xc0\x80", 0, 1, false},
		{"\xc1\xbf", 0, 1, false},
		{"\xc2\x80", 0x80, 2, true},
		{"\xc2", 0, 1, false},
		{"\xc2a", 0, 1, false},
		{"\xc2\xc2", 0, 1, false},
		{"\xdf\xbfz", 0x7FF, 2, true},
		{"\xe0\x9f\xbf", 0, 1, false},
		{"\xe0\xa0\x80", 0x800, 3, true},
		{"\xe4\xb8", 0, 1, false},
		{"\xe4\xb8a", 0, 1, false},
		{"\xed\x9f\xbf", 0xD7FF, 3, true},
		{"\xed\xa0\x80", 0, 1, false},
		{"\xed\xbf\xbf", 0, 1, false},
		{"\xee\x80\x80", 0xE000, 3, true},
		{"\xef\xbb\xbf", 0xFEFF, 3, true},
		{"\xef\xbf\xbd", 0xFFFD, 3, true},
		{"\xef\xbf\xbf", 0xFFFF, 3, true},
		{"\xf0\x8f\xbf\xbf", 0, 1, false},
		{"\xf0\x90\x80\x80", 0x10000, 4, true},
		{"\xf0\x90\x80", 0, 1, false},
		{"\xf4\x8f\xbf\xbf", 0x10FFFF, 4, true},
		{"\xf4\x90\x80\x80", 0, 1, false},
		{"\xf5\x80\x80\x80", 0, 1, false},
		{"\xf8\x88\x80\x80\x80", 0, 1, false},
		{"\xfe", 0, 1, false},
		{"\xff", 0, 1, false},
	} {
		if r, n, ok := Rune([]byte(c.s)); r != c.r || n != c.n || ok != c.ok {
			t.Errorf("Rune(% x): %x %d %v, want %x %d %v", c.s, r, n, ok, c.r, c.n, c.ok)
		}
	}
}

// P1.1
func TestRuneOfEveryRune(t *testing.T) {
	for r := rune(0); r <= 0x10FFFF; r++ {
		if r >= 0xD800 && r <= 0xDFFF {
			continue
		}
		b := utf8.AppendRune(nil, r)
		if got, n, ok := Rune(append(b, 0x80)); got != r || n != len(b) || !ok {
			t.Fatalf("Rune(% x): %x %d %v", b, got, n, ok)
		}
		for cut := 1; cut < len(b); cut++ {
			if got, n, ok := Rune(b[:cut]); got != 0 || n != 1 || ok {
				t.Fatalf("Rune(% x): %x %d %v", b[:cut], got, n, ok)
			}
		}
	}
}

// P1.1
func TestRuneOfEveryShortInput(t *testing.T) {
	for i := range 1 << 16 {
		b := []byte{byte(i >> 8), byte(i)}
		sameRune(t, b[:1])
		sameRune(t, b)
	}
	edges := []byte{0x00, 0x0A, 0x41, 0x7F, 0x80, 0x8F, 0x90, 0x9F, 0xA0, 0xBB, 0xBF, 0xC0, 0xC2, 0xE0, 0xF0, 0xFF}
	for c := range 256 {
		for second := range 256 {
			for _, third := range edges {
				sameRune(t, []byte{byte(c), byte(second), third})
				for _, fourth := range edges {
					sameRune(t, []byte{byte(c), byte(second), third, fourth})
				}
			}
		}
	}
}

// P1.1, R4: what lies behind the length is not read.
func TestRuneStopsAtTheLength(t *testing.T) {
	b := []byte("\U0001F600")
	for n := range 4 {
		if r, got, ok := Rune(b[:n]); r != 0 || got != min(n, 1) || ok {
			t.Errorf("%d bytes: %x %d %v", n, r, got, ok)
		}
	}
}

// P1.1
func TestPrintableOfEveryRune(t *testing.T) {
	yes := [][2]rune{{9, 10}, {13, 13}, {32, 126}, {133, 133}, {160, 0xD7FF}, {0xE000, 0xFEFE}, {0xFF00, 0xFFFD}, {0x10000, 0x10FFFF}}
	for r := rune(-0x200); r <= 0x110200; r++ {
		want := false
		for _, span := range yes {
			want = want || r >= span[0] && r <= span[1]
		}
		if got := Printable(r); got != want {
			t.Errorf("Printable(%d): %v", r, got)
		}
	}
	for _, r := range []rune{-1 << 31, -1<<31 + 9, 1<<31 - 1, 1 << 24} {
		if Printable(r) {
			t.Errorf("Printable(%d)", r)
		}
	}
}

// P1.2
func TestCheckTakesTexts(t *testing.T) {
	for _, s := range []string{
		"", "a", "\t", "\n", "\r\n", "\n\n", "\r\n\r\n", "a\r\nb\nc", "\n\r\n",
		"\u0085", "\u00a0", "\u2028", "\ud7ff", "\ue000", "\ufffd", "\U00010000", "\U0001FFFE", "\U0010FFFF",
		"\xef\xbb\xbf", "\xef\xbb\xbfa", "\xef\xbb\xbf\r\n", "a: 1 # \u00e9\n",
	} {
		if at, e := Check([]byte(s)); at != 0 || e != api.OK {
			t.Errorf("Check(%q): %d %d", s, at, e)
		}
	}
	if at, e := Check(nil); at != 0 || e != api.OK {
		t.Error(at, e)
	}
}

// P1.2
func TestCheckRefusesAtTheFirstFault(t *testing.T) {
	for _, c := range []struct {
		s  string
		at int
	}{
		{"\x00", 0}, {"a\x00", 1}, {"a\x00\x00", 1}, {"\x1f", 0}, {"a\x7f", 1}, {"\u0080", 0}, {"\u00e9\u009f", 2},
		{"\r", 0}, {"a\r", 1}, {"a\rb", 1}, {"\r\r\n", 0}, {"\r\n\r", 2}, {"\n\r", 1}, {"\r\x00", 0}, {"\r\u010a", 0},
		{"\xff", 0}, {"ab\xe4\xb8", 2}, {"\xc0\x80", 0}, {"\xed\xa0\x80", 0}, {"\xf4\x90\x80\x80", 0}, {"\u4e16\x80", 3}, {"\U0001F600\xf0\x9f\x98", 4},
		{"\xef\xbb", 0}, {"a\xbb\xbf", 1}, {"\xefa\xbf", 0}, {"\xef\xbba", 0}, {"\xef\xbb\xbf\xef\xbb\xbf", 3}, {"\xef\xbb\xbf\x00", 3}, {"\xef\xbb\xbf\r", 3}, {"\xef\xbb\xbf\xff", 3},
		{"a\ufeff", 1}, {"\n\ufeff", 1}, {"\ufffe", 0}, {"a\uffff", 1},
	} {
		if at, e := Check([]byte(c.s)); at != c.at || e != api.ErrText {
			t.Errorf("Check(%q): %d %d, want %d", c.s, at, e, c.at)
		}
	}
}

// P1.2
func TestCheckOfEveryRune(t *testing.T) {
	for r := rune(0); r <= 0x10FFFF; r++ {
		if r >= 0xD800 && r <= 0xDFFF {
			continue
		}
		at, e := Check([]byte("\u00e9" + string(r) + "\n"))
		if ok := e == api.OK && at == 0; ok != Printable(r) {
			t.Fatalf("%x: %d %d", r, at, e)
		}
		if e != api.OK && (e != api.ErrText || at != 2) {
			t.Fatalf("%x: %d %d", r, at, e)
		}
	}
}

// P1.2: the length is asked first, the mark counts.
func TestCheckOfTheLimit(t *testing.T) {
	most := strings.Repeat("a", api.MaxBytes)
	mark := "\xef\xbb\xbf"
	for _, c := range []struct {
		s  string
		at int
		e  api.Errno
	}{
		{most, 0, api.OK},
		{most + "a", api.MaxBytes, api.ErrLimit},
		{most + most, api.MaxBytes, api.ErrLimit},
		{"\x00" + most, api.MaxBytes, api.ErrLimit},
		{most[1:] + "\u00e9", api.MaxBytes, api.ErrLimit},
		{mark + most[3:], 0, api.OK},
		{mark + most[2:], api.MaxBytes, api.ErrLimit},
		{most[1:] + "\x00", api.MaxBytes - 1, api.ErrText},
		{most[1:] + "\r", api.MaxBytes - 1, api.ErrText},
		{most[2:] + "\r\n", 0, api.OK},
	} {
		if at, e := Check([]byte(c.s)); at != c.at || e != c.e {
			t.Errorf("%d bytes: %d %d, want %d %d", len(c.s), at, e, c.at, c.e)
		}
	}
}

// P1.2, R4: what is handed in stays, and what lies behind the length is not read.
func TestCheckKeepsWhatItIsGiven(t *testing.T) {
	b := []byte("a\r\nb\x00")
	was := bytes.Clone(b)
	if at, e := Check(b[:2]); at != 1 || e != api.ErrText {
		t.Error(at, e)
	}
	if at, e := Check(b[:4]); at != 0 || e != api.OK {
		t.Error(at, e)
	}
	mark := []byte("\xef\xbb\xbf")
	if at, e := Check(mark[:2]); at != 0 || e != api.ErrText {
		t.Error(at, e)
	}
	if !bytes.Equal(b, was) {
		t.Errorf("%q", b)
	}
}

// P1.3
func TestSpaceAndDigitOfEveryByte(t *testing.T) {
	for i := range 256 {
		c := byte(i)
		if got, want := Space(c), c == 32; got != want {
			t.Errorf("Space(%d): %v", c, got)
		}
		if got, want := Digit(c), bytes.IndexByte([]byte("0123456789"), c) >= 0; got != want {
			t.Errorf("Digit(%d): %v", c, got)
		}
	}
}

// P1.3
func TestNameOfEveryByte(t *testing.T) {
	letters := "ABCDEFGHIJKLMNOPQRSTUVWXYZabcdefghijklmnopqrstuvwxyz0123456789-_"
	for i := range 256 {
		c := string([]byte{byte(i)})
		want := strings.Contains(letters, c)
		for _, s := range []string{c, c + "a", "a" + c, "a" + c + "a"} {
			if got := Name(s); got != want {
				t.Errorf("Name(%q): %v", s, got)
			}
		}
	}
}

// P1.3
func TestNameOfEachLength(t *testing.T) {
	for n := range 2*api.MaxName + 2 {
		if got, want := Name(strings.Repeat("k", n)), n >= 1 && n <= api.MaxName; got != want {
			t.Errorf("%d letters: %v", n, got)
		}
	}
	for s, want := range map[string]bool{"-": true, "_": true, "0": true, "a-b_C9": true, "a b": false, "a.b": false, "\u00e9": false, "a\u00e9": false, "k\n": false, "\u212a": false} {
		if got := Name(s); got != want {
			t.Errorf("Name(%q): %v", s, got)
		}
	}
}
