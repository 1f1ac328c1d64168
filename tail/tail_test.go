package tail

import (
	"bytes"
	"regexp"
	"strings"
	"testing"
)

// eachText calls do with every text of at most most pieces.
func eachText(most int, pieces []string, do func(s string)) {
	eachLonger("", most, pieces, do)
}

func eachLonger(s string, more int, pieces []string, do func(s string)) {
	do(s)
	if more == 0 {
		return
	}
	for _, p := range pieces {
		eachLonger(s+p, more-1, pieces, do)
	}
}

// The rules are matched against Latin-1, so that each byte is a rune of its own.
var (
	clearRule   = regexp.MustCompile(`(?s)^(?: *| +#.*)$`)
	commentRule = regexp.MustCompile(`(?s)^( +)#`)
	restRule    = regexp.MustCompile(`(?s)^ *(|[^ ].*)$`)
	beginRule   = regexp.MustCompile(`(?s)^---(?: *| +#.*)$`)
	endRule     = regexp.MustCompile(`(?s)^\.\.\.(?: *| +#.*)$`)
	badRule     = regexp.MustCompile(`^(?:---|\.\.\.)[ \t]`)
)

func bytesAsRunes(s string) string {
	var r []rune
	for i := range len(s) {
		r = append(r, rune(s[i]))
	}
	return string(r)
}

func runesAsBytes(s string) string {
	var b []byte
	for _, r := range s {
		b = append(b, byte(r))
	}
	return string(b)
}

func markerByRule(latin string) int {
	switch {
	case beginRule.MatchString(latin):
		return 1
	case endRule.MatchString(latin):
		return 2
	case badRule.MatchString(latin):
		return 3
	}
	return 0
}

// holdsByRule holds every call, asked of s, against P11.1 as the rules say it.
func holdsByRule(t *testing.T, s string) {
	t.Helper()
	latin := bytesAsRunes(s)
	if got, want := Clear([]byte(s)), clearRule.MatchString(latin); got != want {
		t.Errorf("Clear(%q) = %v, want %v", s, got, want)
	}
	wantAt, wantOK := 0, false
	if m := commentRule.FindStringSubmatch(latin); m != nil {
		wantAt, wantOK = len(m[1]), true
	}
	if at, ok := Comment([]byte(s)); at != wantAt || ok != wantOK {
		t.Errorf("Comment(%q) = %d, %v, want %d, %v", s, at, ok, wantAt, wantOK)
	}
	if got, want := string(Rest([]byte(s))), runesAsBytes(restRule.FindStringSubmatch(latin)[1]); got != want {
		t.Errorf("Rest(%q) = %q, want %q", s, got, want)
	}
	if got, want := Marker([]byte(s)), markerByRule(latin); got != want {
		t.Errorf("Marker(%q) = %d, want %d", s, got, want)
	}
}

// P11.1: the chapter's example.
func TestExample(t *testing.T) {
	if got := Marker([]byte("--- # x")); got != 1 {
		t.Errorf("Marker = %d, want 1", got)
	}
}

// P11.1: Clear, Comment and Rest; R3: beside false the place is 0.
func TestTails(t *testing.T) {
	for _, c := range []struct {
		s     string
		clear bool
		at    int
		ok    bool
		rest  string
	}{
		{"", true, 0, false, ""},
		{" ", true, 0, false, ""},
		{"     ", true, 0, false, ""},
		{" #", true, 1, true, "#"},
		{" # x", true, 1, true, "# x"},
		{"   #x # y ", true, 3, true, "#x # y "},
		{" ##", true, 1, true, "##"},
		{" # \t\x00\xff\n", true, 1, true, "# \t\x00\xff\n"},
		{"#", false, 0, false, "#"},
		{"# x", false, 0, false, "# x"},
		{"\t", false, 0, false, "\t"},
		{"\t#", false, 0, false, "\t#"},
		{" \t", false, 0, false, "\t"},
		{" \t#", false, 0, false, "\t#"},
		{"\t #", false, 0, false, "\t #"},
		{"x", false, 0, false, "x"},
		{"x ", false, 0, false, "x "},
		{"  x #", false, 0, false, "x #"},
		{" \n", false, 0, false, "\n"},
		{" \r", false, 0, false, "\r"},
		{" \u00a0#", false, 0, false, "\u00a0#"},
		{" \uff03", false, 0, false, "\uff03"},
	} {
		if got := Clear([]byte(c.s)); got != c.clear {
			t.Errorf("Clear(%q) = %v, want %v", c.s, got, c.clear)
		}
		if at, ok := Comment([]byte(c.s)); at != c.at || ok != c.ok {
			t.Errorf("Comment(%q) = %d, %v, want %d, %v", c.s, at, ok, c.at, c.ok)
		}
		if got := string(Rest([]byte(c.s))); got != c.rest {
			t.Errorf("Rest(%q) = %q, want %q", c.s, got, c.rest)
		}
	}
}

// P11.1: Marker.
func TestMarker(t *testing.T) {
	for _, c := range []struct {
		s    string
		want int
	}{
		{"---", 1}, {"--- ", 1}, {"---    ", 1}, {"--- #", 1}, {"---   # x", 1}, {"--- #\t\xff", 1},
		{"...", 2}, {"... ", 2}, {"...    ", 2}, {"... #", 2}, {"...   # x", 2}, {"... #\t\xff", 2},
		{"--- x", 3}, {"---  x # y", 3}, {"---\t", 3}, {"---\tx", 3}, {"---\t# x", 3}, {"--- \t", 3}, {"--- \t#", 3}, {"--- ---", 3}, {"--- \n", 3},
		{"... x", 3}, {"...  x # y", 3}, {"...\t", 3}, {"...\tx", 3}, {"...\t# x", 3}, {"... \t", 3}, {"... \t#", 3}, {"... ...", 3}, {"... \n", 3},
		{"", 0}, {"-", 0}, {"--", 0}, {"----", 0}, {"---- ", 0}, {"---x", 0}, {"---#", 0}, {"---# x", 0}, {"---\n", 0}, {"---\r", 0}, {"---\u00a0", 0},
		{".", 0}, {"..", 0}, {"....", 0}, {".... ", 0}, {"...x", 0}, {"...#", 0}, {"...# x", 0}, {"...\n", 0}, {"...\r", 0}, {"...\u00a0", 0},
		{" ---", 0}, {" ...", 0}, {"\t---", 0}, {"--.", 0}, {"..-", 0}, {"-.- ", 0}, {"- --", 0}, {"-- -", 0}, {"-- ", 0}, {".. ", 0}, {"x", 0}, {" ", 0}, {" #", 0}, {"x---", 0},
		{"---...", 0}, {"...---", 0},
	} {
		if got := Marker([]byte(c.s)); got != c.want {
			t.Errorf("Marker(%q) = %d, want %d", c.s, got, c.want)
		}
	}
}

// P11.1: every short text of the signs that count.
func TestEveryShortText(t *testing.T) {
	eachText(7, []string{" ", "#", "\t", "-", "."}, func(s string) { holdsByRule(t, s) })
	eachText(4, []string{" ", "#", "\t", "\n", "\r", "x", "---", "...", "\xff", "\x00"}, func(s string) { holdsByRule(t, s) })
}

// P11.1: every byte, and every two, in the places that count.
func TestEveryByte(t *testing.T) {
	around := [][2]string{{"", ""}, {" ", ""}, {"  ", "#"}, {"", "#"}, {"", " #"}, {" #", " "}, {"---", ""}, {"---", " "}, {"--- ", ""}, {"---", " #"}, {"...", ""}, {"...", "x"}, {"... ", "#"}, {"... #", ""}, {"", "--"}, {"-", "-"}, {"--", ""}, {"", ".."}, {".", "."}, {"..", ""}, {"", "---"}}
	for x := range 256 {
		for _, a := range around {
			holdsByRule(t, a[0]+string([]byte{byte(x)})+a[1])
		}
		for y := range 256 {
			holdsByRule(t, string([]byte{byte(x), byte(y)}))
		}
	}
}

// R1: long lines are answered as short ones.
func TestLong(t *testing.T) {
	const many = 1 << 17
	wide := strings.Repeat(" ", many)
	long := strings.Repeat("#- .", many)
	for _, s := range []string{wide, wide + "#", wide + "x", " " + long, long, "---" + wide, "---" + wide + long, "..." + wide + "x", "..." + wide + long, strings.Repeat("-", many), strings.Repeat(".", many)} {
		longHolds(t, s)
	}
}

// longHolds is holdsByRule for ASCII lines that are too long to be shown.
func longHolds(t *testing.T, s string) {
	t.Helper()
	trimmed := strings.TrimLeft(s, " ")
	blanks := len(s) - len(trimmed)
	isComment := blanks > 0 && strings.HasPrefix(trimmed, "#")
	if Clear([]byte(s)) != (trimmed == "" || isComment) {
		t.Errorf("Clear of %d bytes, %d blanks", len(s), blanks)
	}
	if at, ok := Comment([]byte(s)); ok != isComment || ok && at != blanks || !ok && at != 0 {
		t.Errorf("Comment of %d bytes, %d blanks: %d, %v", len(s), blanks, at, ok)
	}
	if string(Rest([]byte(s))) != trimmed {
		t.Errorf("Rest of %d bytes, %d blanks", len(s), blanks)
	}
	if got, want := Marker([]byte(s)), markerByRule(s); got != want {
		t.Errorf("Marker of %d bytes, %d blanks: %d, want %d", len(s), blanks, got, want)
	}
}

// R4: what is handed in is not changed, what lies behind its length is not read, and Rest is new memory.
func TestMemory(t *testing.T) {
	for _, c := range []struct {
		all  string
		most int
	}{{"  # x", 1}, {"  # x", 2}, {"  ab", 2}, {"  ab", 3}, {"ab", 1}, {"--- x", 3}, {"--- x", 4}, {"---x", 3}, {"----", 2}, {"... #", 2}, {"... x", 4}} {
		all := []byte(c.all)
		b := all[:c.most]
		holdsByRule(t, string(b))
		if Clear(b) != Clear([]byte(c.all[:c.most])) || Marker(b) != Marker([]byte(c.all[:c.most])) {
			t.Errorf("%q: what lies behind %d bytes counts", c.all, c.most)
		}
		if at, ok := Comment(b); ok && at >= c.most {
			t.Errorf("%q: a comment at %d, behind %d bytes", c.all, at, c.most)
		}
		rest := Rest(b)
		if !bytes.Equal(rest, Rest([]byte(c.all[:c.most]))) {
			t.Errorf("%q: Rest reads behind %d bytes: %q", c.all, c.most, rest)
		}
		rest = append(rest[:cap(rest)], "zz"...)
		for i := range rest {
			rest[i] = 'z'
		}
		if string(all) != c.all {
			t.Errorf("%q became %q", c.all, all)
		}
	}
}

// R4: nil is as the empty list; R5: asked again the answers are the same, and those given before stay.
func TestAskedAgain(t *testing.T) {
	if at, ok := Comment(nil); !Clear(nil) || at != 0 || ok || len(Rest(nil)) != 0 || Marker(nil) != 0 {
		t.Error("nil is not as the empty list")
	}
	b := []byte("  ab")
	first, second := Rest(b), Rest(b)
	copy(b, "xxxx")
	first[0] = 'y'
	if string(first) != "yb" || string(second) != "ab" {
		t.Errorf("the answers share memory: %q, %q", first, second)
	}
	for range 3 {
		holdsByRule(t, " # x")
		holdsByRule(t, "--- x")
	}
}
