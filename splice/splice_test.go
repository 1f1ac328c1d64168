package splice

import (
	"bytes"
	"math"
	"math/rand"
	"slices"
	"strings"
	"testing"

	"scholium/api"
)

// at is a splice, written short.
func at(from, to int, text string) api.Splice {
	return api.Splice{From: from, To: to, Text: text}
}

// eachList calls do with every list of at most most splices whose places are from low to high.
func eachList(most, low, high int, texts []string, do func(l []api.Splice)) {
	var all []api.Splice
	for from := low; from <= high; from++ {
		for to := low; to <= high; to++ {
			for _, text := range texts {
				all = append(all, at(from, to, text))
			}
		}
	}
	eachLonger(nil, most, all, do)
}

func eachLonger(l []api.Splice, more int, all []api.Splice, do func(l []api.Splice)) {
	do(l)
	if more == 0 {
		return
	}
	for _, s := range all {
		eachLonger(append(slices.Clip(l), s), more-1, all, do)
	}
}

// validByRule says by other means what P3.1 asks of Valid.
func validByRule(n int, l []api.Splice) bool {
	var places []int
	for _, s := range l {
		places = append(places, s.From, s.To)
	}
	return slices.IsSorted(places) && !slices.ContainsFunc(places, func(p int) bool { return p < 0 || p > n })
}

// doByRule says by other means what P3.1 asks of Do: the last one first, so that the places ahead stay as they are.
func doByRule(s string, l []api.Splice) string {
	for _, p := range slices.Backward(l) {
		s = s[:p.From] + p.Text + s[p.To:]
	}
	return s
}

// P3.1
func TestValidOfExamples(t *testing.T) {
	for _, c := range []struct {
		n    int
		l    []api.Splice
		want bool
	}{
		{0, nil, true},
		{6, nil, true},
		{0, []api.Splice{at(0, 0, "x")}, true},
		{6, []api.Splice{at(6, 6, "")}, true},
		{6, []api.Splice{at(0, 6, "")}, true},
		{6, []api.Splice{at(0, 0, "a"), at(0, 0, "b"), at(0, 6, ""), at(6, 6, "")}, true},
		{6, []api.Splice{at(0, 2, ""), at(2, 3, ""), at(5, 6, "")}, true},
		{0, []api.Splice{at(0, 1, "")}, false},
		{6, []api.Splice{at(7, 7, "")}, false},
		{6, []api.Splice{at(6, 7, "")}, false},
		{6, []api.Splice{at(-1, 0, "")}, false},
		{6, []api.Splice{at(-1, -1, "")}, false},
		{6, []api.Splice{at(0, -1, "")}, false},
		{6, []api.Splice{at(3, 2, "")}, false},
		{6, []api.Splice{at(0, 2, ""), at(1, 3, "")}, false},
		{6, []api.Splice{at(2, 3, ""), at(0, 1, "")}, false},
		{6, []api.Splice{at(2, 3, ""), at(2, 2, "")}, false},
		{6, []api.Splice{at(0, 1, ""), at(2, 3, ""), at(4, 7, "")}, false},
		{6, []api.Splice{at(0, 5, ""), at(5, 5, ""), at(4, 6, "")}, false},
	} {
		if got := Valid(c.n, c.l...); got != c.want {
			t.Errorf("Valid(%d, %v): %v", c.n, c.l, got)
		}
	}
}

// R1: numbers that no text has.
func TestValidOfGreatNumbers(t *testing.T) {
	for _, c := range []struct {
		n    int
		s    api.Splice
		want bool
	}{
		{math.MaxInt, at(0, math.MaxInt, ""), true},
		{math.MaxInt, at(math.MaxInt, math.MaxInt, ""), true},
		{math.MaxInt, at(math.MaxInt, math.MinInt, ""), false},
		{math.MaxInt, at(math.MinInt, math.MaxInt, ""), false},
		{math.MaxInt - 1, at(0, math.MaxInt, ""), false},
		{math.MinInt, at(0, 0, ""), false},
		{-1, at(0, 0, ""), false},
		{-1, at(-1, -1, ""), false},
		{-1, at(-2, -1, ""), false},
	} {
		if got := Valid(c.n, c.s); got != c.want {
			t.Errorf("Valid(%d, %v): %v", c.n, c.s, got)
		}
	}
	if !Valid(-1) || !Valid(math.MinInt) {
		t.Error("no splice at all")
	}
}

// P3.1
func TestDoOfExamples(t *testing.T) {
	for _, c := range []struct {
		b    string
		l    []api.Splice
		want string
	}{
		{"abc", []api.Splice{at(1, 2, "x")}, "axc"},
		{"abc", nil, "abc"},
		{"", nil, ""},
		{"", []api.Splice{at(0, 0, "x"), at(0, 0, "y")}, "xy"},
		{"abc", []api.Splice{at(0, 3, "")}, ""},
		{"abc", []api.Splice{at(0, 0, "")}, "abc"},
		{"abc", []api.Splice{at(3, 3, "x")}, "abcx"},
		{"abc", []api.Splice{at(1, 1, "x"), at(1, 2, "y"), at(2, 2, "z")}, "axyzc"},
		{"abc", []api.Splice{at(0, 1, "long"), at(2, 3, "longer")}, "longblonger"},
		{"a\r\nb", []api.Splice{at(1, 2, "\x00\xff")}, "a\x00\xff\nb"},
	} {
		got, e := Do([]byte(c.b), c.l...)
		if string(got) != c.want || e != api.OK {
			t.Errorf("Do(%q, %v): %q %d, want %q", c.b, c.l, got, e, c.want)
		}
	}
}

// P3.1
func TestDoOfInvalidSplices(t *testing.T) {
	for _, l := range [][]api.Splice{
		{at(2, 1, "x")},
		{at(0, 4, "x")},
		{at(4, 4, "x")},
		{at(-1, 0, "x")},
		{at(0, 2, "x"), at(1, 3, "y")},
		{at(2, 3, "x"), at(0, 1, "y")},
		{at(0, 1, "x"), at(1, math.MaxInt, "y")},
		{at(math.MinInt, math.MaxInt, "x")},
		{at(math.MaxInt, math.MinInt, "x")},
	} {
		if got, e := Do([]byte("abc"), l...); len(got) != 0 || e != api.ErrArg {
			t.Errorf("Do(%v): %q %d", l, got, e)
		}
	}
}

// P3.1: the limit is of what comes, neither of what was nor of a splice alone.
func TestDoAtTheLimit(t *testing.T) {
	full := bytes.Repeat([]byte("a"), api.MaxBytes)
	more := append(bytes.Clone(full), "aaa"...)
	for _, c := range []struct {
		b    []byte
		l    []api.Splice
		size int
		e    api.Errno
	}{
		{full, nil, api.MaxBytes, api.OK},
		{full, []api.Splice{at(0, 1, "x")}, api.MaxBytes, api.OK},
		{full, []api.Splice{at(0, 0, "x")}, 0, api.ErrLimit},
		{full, []api.Splice{at(0, 0, "x"), at(5, 6, "")}, api.MaxBytes, api.OK},
		{full, []api.Splice{at(0, 0, "xy"), at(5, 6, "")}, 0, api.ErrLimit},
		{more, nil, 0, api.ErrLimit},
		{more, []api.Splice{at(1, 3, "")}, 0, api.ErrLimit},
		{more, []api.Splice{at(1, 4, "")}, api.MaxBytes, api.OK},
		{full, []api.Splice{at(0, api.MaxBytes, string(full))}, api.MaxBytes, api.OK},
		{full, []api.Splice{at(0, api.MaxBytes, string(full)+"x")}, 0, api.ErrLimit},
		{nil, []api.Splice{at(0, 0, string(full))}, api.MaxBytes, api.OK},
		{nil, []api.Splice{at(0, 0, string(full)), at(0, 0, string(full))}, 0, api.ErrLimit},
	} {
		if got, e := Do(c.b, c.l...); len(got) != c.size || e != c.e {
			t.Errorf("%d bytes, %d splices: %d %d, want %d %d", len(c.b), len(c.l), len(got), e, c.size, c.e)
		}
	}
}

// R2: ErrArg is named ahead of ErrLimit.
func TestDoOfTwoErrors(t *testing.T) {
	more := bytes.Repeat([]byte("a"), api.MaxBytes+1)
	if got, e := Do(more, at(1, 0, "x")); len(got) != 0 || e != api.ErrArg {
		t.Error(len(got), e)
	}
	if got, e := Do(nil, at(0, 1, string(more))); len(got) != 0 || e != api.ErrArg {
		t.Error(len(got), e)
	}
}

// P3.1
func TestValidAndDoOfEveryShortList(t *testing.T) {
	for _, b := range []string{"", "a", "ab", "abc"} {
		eachList(2, -1, 4, []string{"", "x", "yz"}, func(l []api.Splice) { sameAsByRule(t, b, l) })
	}
	eachList(3, 0, 3, []string{"", "xy"}, func(l []api.Splice) { sameAsByRule(t, "abc", l) })
}

func sameAsByRule(t *testing.T, b string, l []api.Splice) {
	t.Helper()
	ok := validByRule(len(b), l)
	want, wantE := "", api.ErrArg
	if ok {
		want, wantE = doByRule(b, l), api.OK
	}
	if got := Valid(len(b), l...); got != ok {
		t.Fatalf("Valid(%d, %v): %v", len(b), l, got)
	}
	if got, e := Do([]byte(b), l...); string(got) != want || e != wantE {
		t.Fatalf("Do(%q, %v): %q %d, want %q %d", b, l, got, e, want, wantE)
	}
}

// R4: what is handed in stays, bytes behind the length are not touched, each answer is its own.
func TestDoAndMemory(t *testing.T) {
	b := []byte("abcdef")
	l := []api.Splice{at(1, 1, "xxx"), at(2, 3, "y"), at(4, 4, "z")}
	was := slices.Clone(l)
	if got, e := Do(b[:3], l[:2]...); string(got) != "axxxby" || e != api.OK {
		t.Errorf("%q %d", got, e)
	}
	if got, e := Do(b[:3], at(0, 4, "")); len(got) != 0 || e != api.ErrArg {
		t.Errorf("%q %d", got, e)
	}
	one, _ := Do(b[:3])
	two, _ := Do(b[:3])
	one[0] = 'Z'
	_ = append(two, 'Y')
	if string(b) != "abcdef" || string(two) != "abc" || !slices.Equal(l, was) {
		t.Errorf("%q %q %v", b, two, l)
	}
}

// P3.1
func TestMergeOfExamples(t *testing.T) {
	for _, c := range []struct{ l, want []api.Splice }{
		{nil, nil},
		{[]api.Splice{at(1, 2, "x")}, []api.Splice{at(1, 2, "x")}},
		{[]api.Splice{at(3, 4, "b"), at(1, 1, "c"), at(3, 3, "a"), at(1, 1, "d")}, []api.Splice{at(1, 1, "c"), at(1, 1, "d"), at(3, 3, "a"), at(3, 4, "b")}},
		{[]api.Splice{at(1, 1, "b"), at(1, 1, "a"), at(1, 1, "b")}, []api.Splice{at(1, 1, "b"), at(1, 1, "a"), at(1, 1, "b")}},
		{[]api.Splice{at(0, 9, ""), at(0, 3, ""), at(0, 5, "")}, []api.Splice{at(0, 3, ""), at(0, 5, ""), at(0, 9, "")}},
		{[]api.Splice{at(2, 0, ""), at(-3, 7, ""), at(1, -8, "")}, []api.Splice{at(-3, 7, ""), at(1, -8, ""), at(2, 0, "")}},
		{[]api.Splice{at(math.MaxInt, 0, ""), at(math.MinInt, 0, ""), at(0, math.MaxInt, ""), at(0, math.MinInt, "")}, []api.Splice{at(math.MinInt, 0, ""), at(0, math.MinInt, ""), at(0, math.MaxInt, ""), at(math.MaxInt, 0, "")}},
	} {
		if got := Merge(c.l...); !slices.Equal(got, c.want) {
			t.Errorf("Merge(%v): %v", c.l, got)
		}
	}
}

// P3.1: many with equal places, so that a sort that is not stable is told.
func TestMergeIsStable(t *testing.T) {
	chance := rand.New(rand.NewSource(3))
	for range 200 {
		var l []api.Splice
		for i := range 300 {
			l = append(l, at(chance.Intn(4), chance.Intn(4), strings.Repeat("x", i)))
		}
		var want []api.Splice
		for from := range 4 {
			for to := range 4 {
				for _, s := range l {
					if s.From == from && s.To == to {
						want = append(want, s)
					}
				}
			}
		}
		if !slices.Equal(Merge(l...), want) {
			t.Fatal("not as they stand")
		}
	}
}

// R4: the list that is handed in stays as it is, each answer is its own.
func TestMergeAndMemory(t *testing.T) {
	l := []api.Splice{at(2, 2, "b"), at(1, 1, "a"), at(0, 0, "behind")}
	was := slices.Clone(l)
	one, two := Merge(l[:2]...), Merge(l[:2]...)
	one[0] = at(9, 9, "z")
	_ = append(one, at(8, 8, "y"))
	if !slices.Equal(l, was) || !slices.Equal(two, []api.Splice{at(1, 1, "a"), at(2, 2, "b")}) {
		t.Error(l, two)
	}
	sorted := []api.Splice{at(1, 1, "a"), at(2, 2, "b")}
	Merge(sorted...)[0] = at(9, 9, "z")
	if sorted[0] != at(1, 1, "a") {
		t.Error(sorted)
	}
}

// P3.1
func TestMapOfExamples(t *testing.T) {
	l := []api.Splice{at(1, 1, "xx"), at(2, 4, "y"), at(5, 6, ""), at(8, 8, "z"), at(8, 9, "zzz")}
	for offset, want := range map[int]int{0: 0, 1: 3, 2: -1, 3: -1, 4: 5, 5: -1, 6: 6, 7: 7, 8: -1, 9: 12, 10: 13} {
		got, ok := Map(offset, l...)
		if ok != (want >= 0) || got != max(want, 0) {
			t.Errorf("Map(%d): %d %v, want %d", offset, got, ok, want)
		}
	}
	for _, offset := range []int{0, 1, 77, math.MaxInt} {
		if got, ok := Map(offset); got != offset || !ok {
			t.Errorf("Map(%d): %d %v", offset, got, ok)
		}
	}
}

// R8: no byte is below 0.
func TestMapBelowNull(t *testing.T) {
	for _, offset := range []int{-1, -9, math.MinInt} {
		for _, l := range [][]api.Splice{nil, {at(0, 0, "x")}, {at(0, 3, "")}} {
			if got, ok := Map(offset, l...); got != 0 || ok {
				t.Errorf("Map(%d, %v): %d %v", offset, l, got, ok)
			}
		}
	}
}

// P3.1: each byte is found again where Map says, and those that are gone are in a splice.
func TestMapOfEveryByte(t *testing.T) {
	const b = "abcd"
	eachList(3, 0, 4, []string{"", "xyz"}, func(l []api.Splice) {
		if !Valid(len(b), l...) {
			return
		}
		done, _ := Do([]byte(b), l...)
		for offset := range len(b) {
			want := strings.IndexByte(string(done), b[offset])
			got, ok := Map(offset, l...)
			if ok != (want >= 0) || got != max(want, 0) {
				t.Fatalf("Map(%d, %v): %d %v, want %d", offset, l, got, ok, want)
			}
		}
	})
}

// R1: splices that are not valid are answered too.
func TestMapOfAnySplices(t *testing.T) {
	places := []int{math.MinInt, -1, 0, 3, math.MaxInt}
	for _, from := range places {
		for _, to := range places {
			for _, offset := range places {
				if got, ok := Map(offset, at(from, to, "x"), at(to, from, "yy")); !ok && got != 0 {
					t.Error(from, to, offset, got)
				}
			}
		}
	}
}
