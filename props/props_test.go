package props

import (
	"regexp"
	"slices"
	"strings"
	"testing"

	"scholium/api"
)

const (
	longest = "abcdefghijklmnopqrstuvwxyz-_0123"
	tooLong = longest + "4"
)

// eachText calls do with every text of at most most pieces.
func eachText(most int, pieces []string, do func(s string)) {
	eachLonger("", most, pieces, do)
}

func eachLonger(s string, more int, pieces []string, do func(s string)) {
	do(s)
	if more == 0 {
		return
	}
	for _, p := range pieces {
		eachLonger(s+p, more-1, pieces, do)
	}
}

// The rules are matched against Latin-1, so that each byte is a rune of its own.
var (
	tagRule    = regexp.MustCompile(`^(?:!|!!?[A-Za-z0-9_-]{1,32})$`)
	anchorRule = regexp.MustCompile(`^&([A-Za-z0-9_-]{1,32})$`)
	aliasRule  = regexp.MustCompile(`^\*([A-Za-z0-9_-]{1,32})(?:[^A-Za-z0-9_-]|$)`)
	wordsRule  = regexp.MustCompile(`(?s)^(?:([!&][^ ]*) *)?(?:([!&][^ ]*) *)?([!&])?`)
)

func bytesAsRunes(s string) string {
	var r []rune
	for i := range len(s) {
		r = append(r, rune(s[i]))
	}
	return string(r)
}

// takeByRule says by other means what P10.1 asks of Take: one word, or two of other kinds, and no third one.
func takeByRule(s string) (Props, int, bool) {
	latin := bytesAsRunes(s)
	m := wordsRule.FindStringSubmatch(latin)
	if m[3] != "" {
		return Props{}, 0, false
	}
	var p Props
	words := slices.DeleteFunc([]string{m[1], m[2]}, func(w string) bool { return w == "" })
	for _, w := range words {
		anchor := anchorRule.FindStringSubmatch(w)
		switch {
		case anchor != nil:
			p.Anchor += anchor[1]
		case tagRule.MatchString(w):
			p.Tag += w
		default:
			return Props{}, 0, false
		}
	}
	switch len(words) {
	case 0:
		return Props{}, 0, true
	case 1:
		return p, len(words[0]), true
	}
	if p.Tag == "" || p.Anchor == "" {
		return Props{}, 0, false
	}
	return p, len(words[0]) + strings.Index(s[len(words[0]):], words[1]) + len(words[1]), true
}

// aliasByRule says by other means what P10.2 asks of TakeAlias.
func aliasByRule(s string) (string, int, bool) {
	m := aliasRule.FindStringSubmatch(bytesAsRunes(s))
	if m == nil {
		return "", 0, false
	}
	return m[1], len(m[1]) + 1, true
}

func sameAsByRule(t *testing.T, s string) {
	t.Helper()
	p, n, ok := Take([]byte(s))
	if q, m, k := takeByRule(s); p != q || n != m || ok != k {
		t.Fatalf("Take(%q): %q %d %v, want %q %d %v", s, p, n, ok, q, m, k)
	}
	name, n, ok := TakeAlias([]byte(s))
	if w, m, k := aliasByRule(s); name != w || n != m || ok != k {
		t.Fatalf("TakeAlias(%q): %q %d %v, want %q %d %v", s, name, n, ok, w, m, k)
	}
	if got, want := ValidTag(s), tagRule.MatchString(bytesAsRunes(s)); got != want {
		t.Fatalf("ValidTag(%q): %v, want %v", s, got, want)
	}
}

// The chapter's example.
func TestExample(t *testing.T) {
	p, n, ok := Take([]byte("&a !!str x"))
	if p != (Props{Tag: "!!str", Anchor: "a"}) || n != 8 || !ok {
		t.Error(p, n, ok)
	}
}

// P10.1
func TestValidTag(t *testing.T) {
	for _, s := range []string{"!", "!a", "!!a", "!!str", "!!int", "!Z", "!9", "!-", "!_", "!!-", "!a-b_C9", "!" + longest, "!!" + longest} {
		if !ValidTag(s) {
			t.Errorf("ValidTag(%q) is false", s)
		}
	}
	for _, s := range []string{
		"", "a", "str", "!!", "!!!", "!!!a", "!a!", "!a!b", "a!", " !", "! ", " !a", "!a ", "! a", "!! a", "!a b", "!<a>", "!a,", "!a:b", "!a.b", "!a/b", "!a%20", "!&a", "&a", "*a",
		"!\u00e9", "!a\u00e9", "!\xff", "!\x00", "!a\n", "!\t", "\uff01", "!" + tooLong, "!!" + tooLong, "!!!" + longest,
	} {
		if ValidTag(s) {
			t.Errorf("ValidTag(%q) is true", s)
		}
	}
}

// P10.1
func TestTakeOfExamples(t *testing.T) {
	for _, c := range []struct {
		s string
		p Props
		n int
	}{
		{"!a", Props{Tag: "!a"}, 2}, {"!", Props{Tag: "!"}, 1}, {"!!str", Props{Tag: "!!str"}, 5}, {"&a", Props{Anchor: "a"}, 2}, {"&a-_9", Props{Anchor: "a-_9"}, 5}, {"&-", Props{Anchor: "-"}, 2},
		{"!a x", Props{Tag: "!a"}, 2}, {"! x", Props{Tag: "!"}, 1}, {"&a x", Props{Anchor: "a"}, 2}, {"&a  x", Props{Anchor: "a"}, 2}, {"&a ", Props{Anchor: "a"}, 2}, {"!a   ", Props{Tag: "!a"}, 2},
		{"&a !b", Props{Tag: "!b", Anchor: "a"}, 5}, {"!b &a", Props{Tag: "!b", Anchor: "a"}, 5}, {"! &a", Props{Tag: "!", Anchor: "a"}, 4}, {"&a !", Props{Tag: "!", Anchor: "a"}, 4},
		{"&a   !b  x", Props{Tag: "!b", Anchor: "a"}, 7}, {"!b   &a   ", Props{Tag: "!b", Anchor: "a"}, 7}, {"&a ! x", Props{Tag: "!", Anchor: "a"}, 4}, {"! &a x !c", Props{Tag: "!", Anchor: "a"}, 4},
		{"&a x &b", Props{Anchor: "a"}, 2}, {"!a x !b", Props{Tag: "!a"}, 2}, {"&a *b", Props{Anchor: "a"}, 2}, {"!a \"!b\"", Props{Tag: "!a"}, 2}, {"!a [&b]", Props{Tag: "!a"}, 2}, {"&a # !b", Props{Anchor: "a"}, 2},
		{"&a \t!b", Props{Anchor: "a"}, 2}, {"&a \n", Props{Anchor: "a"}, 2}, {"!a \xff", Props{Tag: "!a"}, 2}, {"!a \x00", Props{Tag: "!a"}, 2}, {"!a \u00a0", Props{Tag: "!a"}, 2},
		{"!" + longest, Props{Tag: "!" + longest}, 33}, {"!!" + longest + " x", Props{Tag: "!!" + longest}, 34}, {"&" + longest, Props{Anchor: longest}, 33}, {"&" + longest + " !!" + longest, Props{Tag: "!!" + longest, Anchor: longest}, 68},
	} {
		if p, n, ok := Take([]byte(c.s)); p != c.p || n != c.n || !ok {
			t.Errorf("Take(%q): %q %d %v", c.s, p, n, ok)
		}
	}
}

// P10.1: none is no fault.
func TestTakeOfNone(t *testing.T) {
	for _, s := range []string{"", " ", "x", "*a", "\"!a\"", "'&a'", "[!a]", "#!a", " !a", "  &a", " !", " &", "\t!a", "\n&a", "a !b", "x&", "\xff!a", "\x00", "\u00a0!a", "\uff01", "\uff06a", "\xef\xbb\xbf!a"} {
		if p, n, ok := Take([]byte(s)); p != (Props{}) || n != 0 || !ok {
			t.Errorf("Take(%q): %q %d %v", s, p, n, ok)
		}
	}
	if p, n, ok := Take(nil); p != (Props{}) || n != 0 || !ok {
		t.Error(p, n, ok)
	}
}

// P10.1, R3
func TestTakeRefuses(t *testing.T) {
	for _, s := range []string{
		"&", "& ", "& x", "& a", "&&", "&&a", "&a&b", "&a!b", "&!a", "&a,", "&a:", "&a]", "&a\t", "&a\tx", "&a\n", "&a\r\n", "&a.b", "&*a", "&\u00e9", "&a\u00e9", "&\xff", "&a\xff", "&\x00", "&\u00a0", "&a\u00a0x", "&" + tooLong, "&" + tooLong + " x",
		"!!", "!! ", "!! x", "!!!", "!!!a", "!a!", "!a!b", "!a&b", "!&a", "!,", "!a,", "!a:", "!a]", "!<a>", "!\t", "!\tx", "!a\tx", "!\n", "!a\n", "!\r\n", "!\u00e9", "!\xff", "!\x00", "!\u00a0", "!" + tooLong, "!!" + tooLong,
		"&a &b", "&a &a", "&a   &b", "!a !b", "!a !a", "! !", "! !a", "!a !", "!a  !!b",
		"&a &", "&a !!", "&a !b!", "&a !,", "!a &", "!a &!", "!a &b,", "!a &b\t", "&a !b\n", "! &", "&a !" + tooLong, "!a &" + tooLong,
		"&a !b &c", "&a !b !c", "!b &a !c", "!b &a &c", "&a !b &", "&a !b   !", "&a !b !!", "&a !b &,", "! &a !",
	} {
		if p, n, ok := Take([]byte(s)); p != (Props{}) || n != 0 || ok {
			t.Errorf("Take(%q): %q %d %v", s, p, n, ok)
		}
	}
}

// P10.2
func TestTakeAliasOfExamples(t *testing.T) {
	for _, c := range []struct {
		s, name string
		n       int
	}{
		{"*a", "a", 2}, {"*Z9", "Z9", 3}, {"*-", "-", 2}, {"*_", "_", 2}, {"*a-_9 x", "a-_9", 5}, {"*a ", "a", 2}, {"*a,b", "a", 2}, {"*a]", "a", 2}, {"*a: x", "a", 2}, {"*a*b", "a", 2}, {"*a&b", "a", 2}, {"*a!", "a", 2}, {"*a.b", "a", 2}, {"*a#", "a", 2},
		{"*a\t", "a", 2}, {"*a\n", "a", 2}, {"*a\u00e9", "a", 2}, {"*a\xff", "a", 2}, {"*a\x00b", "a", 2},
		{"*" + longest, longest, 33}, {"*" + longest + " x", longest, 33}, {"*" + longest + "," + longest, longest, 33}, {"*" + longest + "\u00e9", longest, 33},
	} {
		if name, n, ok := TakeAlias([]byte(c.s)); name != c.name || n != c.n || !ok {
			t.Errorf("TakeAlias(%q): %q %d %v", c.s, name, n, ok)
		}
	}
}

// P10.2, R3
func TestTakeAliasRefuses(t *testing.T) {
	for _, s := range []string{
		"", "a", "&a", "!a", " *a", "\t*a", "a*b", "*", "* ", "* a", "**", "**a", "*!a", "*&a", "*,", "*\t", "*\n", "*.a", "*\u00e9", "*\xff", "*\x00", "\xff*a", "\uff0aa", "\xef\xbb\xbf*a",
		"*" + tooLong, "*" + tooLong + " x", "*" + tooLong + "5", "*" + tooLong + ",", "*" + longest + longest, "*" + longest + longest + longest + " x",
	} {
		if name, n, ok := TakeAlias([]byte(s)); name != "" || n != 0 || ok {
			t.Errorf("TakeAlias(%q): %q %d %v", s, name, n, ok)
		}
	}
	if name, n, ok := TakeAlias(nil); name != "" || n != 0 || ok {
		t.Error(name, n, ok)
	}
}

// P10.2: what is there is written as it is, be it a tag and a name or not.
func TestPut(t *testing.T) {
	for _, c := range []struct {
		p    Props
		want string
	}{
		{Props{}, ""}, {Props{Tag: "!"}, "!"}, {Props{Tag: "!a"}, "!a"}, {Props{Tag: "!!int"}, "!!int"}, {Props{Anchor: "b"}, "&b"}, {Props{Tag: "!!int", Anchor: "b"}, "&b !!int"}, {Props{Tag: "!", Anchor: "-"}, "&- !"},
		{Props{Tag: "!" + longest, Anchor: longest}, "&" + longest + " !" + longest},
		{Props{Tag: "a"}, "a"}, {Props{Tag: " "}, " "}, {Props{Anchor: "&a"}, "&&a"}, {Props{Anchor: " "}, "& "}, {Props{Tag: "\xff", Anchor: "\n"}, "&\n \xff"}, {Props{Tag: "!" + tooLong, Anchor: tooLong}, "&" + tooLong + " !" + tooLong},
	} {
		if got := Put(c.p); got != c.want {
			t.Errorf("Put(%q): %q", c.p, got)
		}
	}
}

// P10.1, P10.2: what Put writes is read again, if its tag is one and its anchor is a name.
func TestPutIsReadAgain(t *testing.T) {
	tags := []string{"", "!", "!a", "!!a", "!!str", "!-", "!" + longest, "!!" + longest}
	anchors := []string{"", "a", "-", "_", "0", "A-z", longest}
	for _, tag := range tags {
		for _, anchor := range anchors {
			p := Props{Tag: tag, Anchor: anchor}
			text := Put(p)
			for _, more := range []string{"", " ", " x", "  *a"} {
				if q, n, ok := Take([]byte(text + more)); text != "" && (q != p || n != len(text) || !ok) {
					t.Errorf("Take(%q): %q %d %v", text+more, q, n, ok)
				}
			}
		}
	}
}

// P10.1, P10.2
func TestEveryShortText(t *testing.T) {
	eachText(7, []string{"!", "&", " ", "a", "*", ","}, func(s string) { sameAsByRule(t, s) })
	eachText(5, []string{"!", "!b", "&", "&c", " ", "  ", "x", "\t", longest, "\u00e9"}, func(s string) { sameAsByRule(t, s) })
}

// P10.1, P10.2: every byte, in the places that count.
func TestEveryByte(t *testing.T) {
	for c := range 256 {
		for _, s := range []string{"?", "?a", "?a x", "!?", "!!?", "!a?", "!a?b", "!?a", "!?&b", "!a?&b", "!a ?b", "&?", "&a?", "&a?b", "&a?!b", "&a ?b", "&a !b?", "&a !b ?", "&a !?", "!a &?", "*?", "*a?", "*a?b", "*?a", "*" + longest + "?", "!" + longest + "?", "&" + longest + "?", " ?"} {
			sameAsByRule(t, strings.ReplaceAll(s, "?", string([]byte{byte(c)})))
		}
	}
}

// P10.1, P10.2: a name's bound.
func TestEveryLength(t *testing.T) {
	if len(longest) != api.MaxName {
		t.Fatal(len(longest))
	}
	for n := range 3 * api.MaxName {
		name := strings.Repeat("n", n)
		for _, s := range []string{"!?", "!!?", "&?", "*?", "!? x", "&? x", "*? x", "&? !a", "!a &?", "&a !?", "!? &?"} {
			sameAsByRule(t, strings.ReplaceAll(s, "?", name))
		}
	}
}

// P10.1, P10.2, R1: long ones end.
func TestLong(t *testing.T) {
	many := 1 << 17
	for _, s := range []string{"!", "&", "*", "a", " ", "&a ", "!a ", "&a !b "} {
		text := strings.Repeat(s, many)
		for _, start := range []string{"", "!", "&", "*", "!a ", "&a "} {
			sameAsByRule(t, start+text)
		}
	}
	wide := "&a" + strings.Repeat(" ", many) + "!b"
	if p, n, ok := Take([]byte(wide)); p != (Props{Tag: "!b", Anchor: "a"}) || n != len(wide) || !ok {
		t.Error(p, n, ok)
	}
}

// R4, R5: b is neither changed nor kept, what lies behind its length is not read, and what is asked again is answered again.
func TestAskedAgain(t *testing.T) {
	b := []byte("&a !bc *d")
	p, n, _ := Take(b[:5])
	if p != (Props{Tag: "!b", Anchor: "a"}) || n != 5 {
		t.Error(p, n)
	}
	name, _, _ := TakeAlias(b[7:8])
	if name != "" {
		t.Error(name)
	}
	alias := []byte("*xyz")
	name, n, _ = TakeAlias(alias[:3])
	if name != "xy" || n != 3 {
		t.Error(name, n)
	}
	if string(b) != "&a !bc *d" || string(alias) != "*xyz" {
		t.Errorf("%q %q", b, alias)
	}
	for i := range b {
		b[i] = '?'
	}
	for i := range alias {
		alias[i] = '?'
	}
	if p != (Props{Tag: "!b", Anchor: "a"}) || name != "xy" {
		t.Error(p, name)
	}
	for range 3 {
		if p, n, ok := Take([]byte("!a &b x")); p != (Props{Tag: "!a", Anchor: "b"}) || n != 5 || !ok {
			t.Error(p, n, ok)
		}
		if Put(p) != "&a !b" || !ValidTag("!a") {
			t.Error(Put(p))
		}
	}
}
