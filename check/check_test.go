package check

import (
	"fmt"
	"maps"
	"math"
	"math/rand"
	"slices"
	"testing"

	"scholium/api"
	"scholium/inline"
	"scholium/tree"
)

// show is a list of nodes with a node a line, for what a test tells.
func show(l []api.Node) string {
	text := ""
	for _, x := range l[:min(len(l), 12)] {
		text += fmt.Sprintf("\n\t%+v", x)
	}
	return text
}

// parsed is the tree of a text on one line.
func parsed(t *testing.T, s string) []api.Node {
	t.Helper()
	l, e := inline.Parse(s, false)
	if e != api.OK {
		t.Fatalf("%q: %d", s, e)
	}
	return l
}

// sameThings tells whether both lists have the same things.
func sameThings(a, b []api.Thing) bool {
	return slices.EqualFunc(a, b, func(x, y api.Thing) bool {
		return x.Kind == y.Kind && x.Tag == y.Tag && x.Value == y.Value && slices.Equal(x.Kids, y.Kids)
	})
}

func scalar(tag, value string) api.Node {
	return api.Node{Kind: api.Scalar, Tag: tag, Value: value}
}
func str(value string) api.Node    { return scalar("!!str", value) }
func alias(name string) api.Node   { return api.Node{Kind: api.Alias, Value: name} }
func null() api.Node               { return api.Node{Kind: api.Null, Tag: "!!null"} }
func seq(kids ...int) api.Node     { return api.Node{Kind: api.Seq, Tag: "!!seq", Kids: kids} }
func mapping(kids ...int) api.Node { return api.Node{Kind: api.Map, Tag: "!!map", Kids: kids} }
func anchored(a string, x api.Node) api.Node {
	x.Anchor = a
	return x
}

// placed is l, its nodes' places told apart, with no 0 among them.
func placed(l ...api.Node) []api.Node {
	for i := range l {
		l[i].Start, l[i].End, l[i].Head, l[i].Mark = i+1, i+101, i+201, i+301
	}
	return l
}

// P14.2: the chapter's example.
func TestExample(t *testing.T) {
	g, e := Compose(parsed(t, "[&a b, *a]"))
	want := []api.Thing{{Kind: api.Seq, Tag: "!!seq", Kids: []int{1, 1}}, {Kind: api.Scalar, Tag: "!!str", Value: "b"}}
	if e != api.OK || !sameThings(g, want) {
		t.Errorf("%d %+v", e, g)
	}
}

// holdCheck holds Check of l, and Compose's error, against what is wanted.
func holdCheck(t *testing.T, name string, l []api.Node, want api.Errno, wantAt int) {
	t.Helper()
	if e, at := Check(l); e != want || at != wantAt {
		t.Errorf("%s: %d at %d, not %d at %d", name, e, at, want, wantAt)
	}
	if g, e := Compose(l); e != want || (len(g) > 0) != (want == api.OK) {
		t.Errorf("%s: Compose: %d, %d things", name, e, len(g))
	}
}

// P14.1: Check of texts; at is where the node starts, its tag and anchor with it.
func TestCheckOfTexts(t *testing.T) {
	for _, c := range []struct {
		s    string
		want api.Errno
		at   int
	}{
		{"a", api.OK, 0},
		{"&a b", api.OK, 0},
		{"[]", api.OK, 0},
		{"{}", api.OK, 0},
		{"[a, a]", api.OK, 0},
		{"[&a x, &b x]", api.OK, 0},
		// aliases
		{"*a", api.ErrAlias, 0},
		{"[*a]", api.ErrAlias, 1},
		{"[a, *a]", api.ErrAlias, 4},
		{"[&a x, *a]", api.OK, 0},
		{"[&a x, *a, *a, *a]", api.OK, 0},
		{"[&a x, *A]", api.ErrAlias, 7},
		{"[&a x, *ab]", api.ErrAlias, 7},
		{"[&ab x, *a]", api.ErrAlias, 8},
		{"[*a, &a x]", api.ErrAlias, 1},
		{"[&a x, *b, *c]", api.ErrAlias, 7},
		{"&a [*a]", api.OK, 0},
		{"&a {k: [*a, {l: *a}]}", api.OK, 0},
		{"[[[&a x]], {k: *a}]", api.OK, 0},
		{"[{k: *a}, [[&a x]]]", api.ErrAlias, 5},
		{"[&a [*a], *a]", api.OK, 0},
		{"{a: &a , b: *a}", api.OK, 0}, // a Null with an anchor
		{"{a: *a, b: &a x}", api.ErrAlias, 4},
		// anchors
		{"[&a x, &a x]", api.ErrTwice, 7},
		{"[&a x, !t &a y]", api.ErrTwice, 7},
		{"[&a x, *a, &a y, *a]", api.ErrTwice, 11},
		{"&a [&a x]", api.ErrTwice, 4},
		{"&a [[[b, &a {}]]]", api.ErrTwice, 9},
		{"[&a x, &A x, &aa x]", api.OK, 0},
		// keys
		{"{a: 1, a: 2}", api.ErrTwice, 7},
		{"{a: 1, b: 2, a: 3, b: 4}", api.ErrTwice, 13},
		{"{a: 1, b: 2, c: 3}", api.OK, 0},
		{"{a: 1, 'a': 2}", api.ErrTwice, 7},
		{"{\"\\x61\": 1, a: 2}", api.ErrTwice, 12},
		{"{1: a, '1': b}", api.OK, 0}, // of another Tag
		{"{'1': a, 1: b, \"1\": c}", api.ErrTwice, 15},
		{"{1: a, 01: b, 1.0: c}", api.OK, 0}, // of another Value
		{"{~: a, null: b}", api.OK, 0},
		{"{~: a, ~: b}", api.ErrTwice, 7},
		{"{true: a, true: b}", api.ErrTwice, 10},
		{"{a: a, b: a}", api.OK, 0}, // a value is no key
		{"{a: b, b: a}", api.OK, 0},
		{"{a: {a: 1}}", api.OK, 0},
		{"{a: {a: {a: 1}}, b: {a: 1}}", api.OK, 0},
		{"{a: {b: 1}, b: {b: 1}, b: 1}", api.ErrTwice, 23},
		{"[{a: 1}, {a: 1}]", api.OK, 0},
		{"[{a: 1}, {a: 1, a: 1}]", api.ErrTwice, 16},
		// which one is met first
		{"{a: 1, a: *x}", api.ErrTwice, 7},
		{"{a: *x, a: 1}", api.ErrAlias, 4},
		{"{a: {b: *x}, a: 1}", api.ErrAlias, 8},
		{"{a: {b: 1, b: 2}, a: 1}", api.ErrTwice, 11},
		{"{a: 1, a: {b: 1, b: 2}}", api.ErrTwice, 7},
		{"[&a x, *b, &a y]", api.ErrAlias, 7},
		{"[&a x, &a y, *b]", api.ErrTwice, 7},
		{"[{a: 1, a: 2}, *x]", api.ErrTwice, 8},
		{"[*x, {a: 1, a: 2}]", api.ErrAlias, 1},
	} {
		holdCheck(t, fmt.Sprintf("%q", c.s), parsed(t, c.s), c.want, c.at)
	}
}

// P14.1: Check of trees, of those too that no text says.
func TestCheckOfTrees(t *testing.T) {
	for _, c := range []struct {
		name string
		l    []api.Node
		want api.Errno
		at   int // the node's place in the list; -1: none
	}{
		{"a Null", placed(null()), api.OK, -1},
		{"a Null with an anchor", placed(seq(1, 2), anchored("a", null()), alias("a")), api.OK, -1},
		{"the root is an Alias", placed(alias("a")), api.ErrAlias, 0},
		{"the root is an Alias of itself", placed(anchored("a", alias("a"))), api.ErrAlias, 0},
		{"an Alias of itself", placed(seq(1), anchored("a", alias("a"))), api.ErrAlias, 1},
		{"an Alias of an Alias", placed(seq(1, 2, 3), anchored("a", str("x")), anchored("b", alias("a")), alias("b")), api.OK, -1},
		{"an Alias with an anchor that is there", placed(seq(1, 2), anchored("a", str("x")), anchored("a", alias("a"))), api.ErrTwice, 2},
		{"an Alias of nothing with an anchor that is there", placed(seq(1, 2), anchored("a", str("x")), anchored("a", alias("b"))), api.ErrAlias, 2},
		{"an Alias without a name", placed(seq(1, 2), str("x"), alias("")), api.ErrAlias, 2},
		{"no anchor, twice", placed(seq(1, 2), str("x"), str("x")), api.OK, -1},
		{"an Alias of the Seq around it", placed(anchored("a", seq(1)), alias("a")), api.OK, -1},
		{"an Alias of the node behind it", placed(seq(1, 2), alias("a"), anchored("a", str("x"))), api.ErrAlias, 1},
		{"the anchor of a key", placed(mapping(1, 2), anchored("a", str("x")), alias("a")), api.OK, -1},
		{"an Alias that is a key", placed(mapping(1, 2), alias("a"), str("x")), api.ErrAlias, 1},
		{"keys of the same Tag, not of the same Value", placed(mapping(1, 2, 3, 4), str("a"), str("x"), str("b"), str("x")), api.OK, -1},
		{"keys of the same Value, not of the same Tag", placed(mapping(1, 2, 3, 4), str("a"), str("x"), scalar("!t", "a"), str("x")), api.OK, -1},
		{"keys of the same letters", placed(mapping(1, 2, 3, 4), scalar("ab", "c"), str("x"), scalar("a", "bc"), str("x")), api.OK, -1},
		{"keys of letters turned", placed(mapping(1, 2, 3, 4), scalar("a", "b"), str("x"), scalar("b", "a"), str("x")), api.OK, -1},
		{"keys of no Tag and no Value", placed(mapping(1, 2, 3, 4), scalar("", ""), str("x"), scalar("", ""), str("x")), api.ErrTwice, 3},
		{"two Nulls as keys", placed(mapping(1, 2, 3, 4), null(), str("x"), null(), str("x")), api.ErrTwice, 3},
		{"a Null and a Scalar as keys", placed(mapping(1, 2, 3, 4), null(), str("x"), scalar("!!null", ""), str("x")), api.ErrTwice, 3},
		{"two Seqs as keys", placed(mapping(1, 3, 4, 6), seq(2), str("x"), str("x"), seq(5), str("y"), str("x")), api.ErrTwice, 4},
		{"two Seqs as keys, an Alias of nothing in the second", placed(mapping(1, 2, 3, 5), seq(), str("x"), seq(4), alias("a"), str("x")), api.ErrTwice, 3},
		{"two Seqs as keys, an Alias of nothing in the first", placed(mapping(1, 3, 4, 5), seq(2), alias("a"), str("x"), seq(), str("x")), api.ErrAlias, 2},
		{"a Seq and a Map as keys", placed(mapping(1, 2, 3, 4), seq(), str("x"), mapping(), str("x")), api.OK, -1},
		{"two Aliases as keys", placed(seq(1, 2), anchored("a", str("x")), mapping(3, 4, 5, 6), alias("a"), str("x"), alias("a"), str("x")), api.ErrTwice, 5},
		{"Aliases of one node as a key and a value", placed(seq(1, 2), anchored("a", str("x")), mapping(3, 4), alias("a"), alias("a")), api.OK, -1},
		{"a key that is an Alias of nothing, twice", placed(mapping(1, 2, 3, 4), alias("a"), str("x"), alias("a"), str("x")), api.ErrAlias, 1},
		{"a key that is there already, and an Alias of nothing", placed(mapping(1, 2, 3, 4), scalar("", "a"), str("x"), alias("a"), str("x")), api.ErrAlias, 3},
		{"a key and an anchor that are there already", placed(mapping(1, 2, 3, 4), anchored("a", str("k")), str("x"), anchored("a", str("k")), str("x")), api.ErrTwice, 3},
		{"a value as the key ahead of it", placed(mapping(1, 2), str("k"), str("k")), api.OK, -1},
		{"two items that are the same", placed(seq(1, 2), str("k"), str("k")), api.OK, -1},
		{"the third key as the first one", placed(mapping(1, 2, 3, 4, 5, 6), str("k"), str("x"), str("l"), str("x"), str("k"), str("x")), api.ErrTwice, 5},
		{"a key thrice", placed(mapping(1, 2, 3, 4, 5, 6), str("k"), str("x"), str("k"), str("x"), str("k"), str("x")), api.ErrTwice, 3},
	} {
		if !tree.Valid(c.l) {
			t.Fatalf("%s: no tree", c.name)
		}
		at := 0
		if c.at >= 0 {
			at = c.l[c.at].Start
		}
		holdCheck(t, c.name, c.l, c.want, at)
	}
}

// P14.1: at is the node's Start as it comes, 0 and below as well.
func TestCheckPlace(t *testing.T) {
	for _, start := range []int{math.MinInt, -1, 0, 1, 1 << 40, math.MaxInt} {
		l := placed(seq(1), alias("a"))
		l[1].Start = start
		holdCheck(t, "an Alias", l, api.ErrAlias, start)
		l = placed(mapping(1, 2, 3, 4), str("a"), str("x"), str("a"), str("x"))
		l[3].Start = start
		holdCheck(t, "a key", l, api.ErrTwice, start)
	}
}

// P14.2: Anchors and Targets, of trees that Check takes and of those that it doesn't.
func TestAnchorsTargets(t *testing.T) {
	for _, c := range []struct {
		s       string
		anchors map[string]int
		targets map[int]int
	}{
		{"a", nil, nil},
		{"&a b", map[string]int{"a": 0}, nil},
		{"[&a x, *a, &b {k: *b}, *a, &c ~]", map[string]int{"a": 1, "b": 3, "c": 7}, map[int]int{2: 1, 5: 3, 6: 1}},
		{"&r [*r, [*r]]", map[string]int{"r": 0}, map[int]int{1: 0, 3: 0}},
		{"{k: &n , l: *n}", map[string]int{"n": 2}, map[int]int{4: 2}},
		{"*a", nil, nil},
		{"[&a x, *b, *a]", map[string]int{"a": 1}, map[int]int{3: 1}},
		{"[&a x, &a y, *a]", map[string]int{"a": 1}, map[int]int{3: 1}}, // the first one
		{"[*a, &a x, &a y]", map[string]int{"a": 2}, map[int]int{1: 2}},
		{"&a [&a x, *a]", map[string]int{"a": 0}, map[int]int{2: 0}},
		{"[a, 'a', *a]", nil, nil},
	} {
		l := parsed(t, c.s)
		if got := Anchors(l); !maps.Equal(got, c.anchors) {
			t.Errorf("%q: Anchors %v", c.s, got)
		}
		if got := Targets(l); !maps.Equal(got, c.targets) {
			t.Errorf("%q: Targets %v", c.s, got)
		}
	}
	// No anchor is no name: an Alias without one leads nowhere.
	l := placed(seq(1, 2), str("x"), alias(""))
	if len(Anchors(l)) != 0 || len(Targets(l)) != 0 {
		t.Error(Anchors(l), Targets(l))
	}
	// A Scalar's text is no alias's name.
	l = placed(seq(1, 2), anchored("a", str("x")), str("a"))
	if len(Targets(l)) != 0 {
		t.Error(Targets(l))
	}
}

// P14.2: Compose.
func TestCompose(t *testing.T) {
	s := func(tag, value string) api.Thing { return api.Thing{Kind: api.Scalar, Tag: tag, Value: value} }
	q := func(kids ...int) api.Thing { return api.Thing{Kind: api.Seq, Tag: "!!seq", Kids: kids} }
	m := func(kids ...int) api.Thing { return api.Thing{Kind: api.Map, Tag: "!!map", Kids: kids} }
	for _, c := range []struct {
		s    string
		want []api.Thing
	}{
		{"a", []api.Thing{s("!!str", "a")}},
		{"&a b", []api.Thing{s("!!str", "b")}},
		{"!!null", []api.Thing{s("!!null", "")}},
		{"!t 'x'", []api.Thing{s("!t", "x")}},
		{"0x1F", []api.Thing{s("!!int", "0x1F")}},
		{"[]", []api.Thing{q()}},
		{"{}", []api.Thing{m()}},
		{"!t {}", []api.Thing{{Kind: api.Map, Tag: "!t"}}},
		{"[a, a]", []api.Thing{q(1, 2), s("!!str", "a"), s("!!str", "a")}}, // alike, not one
		{"[[a], b]", []api.Thing{q(1, 3), q(2), s("!!str", "a"), s("!!str", "b")}},
		{"{a: }", []api.Thing{m(1, 2), s("!!str", "a"), s("!!null", "")}},
		{"{a: 1, b: [c]}", []api.Thing{m(1, 2, 3, 4), s("!!str", "a"), s("!!int", "1"), s("!!str", "b"), q(5), s("!!str", "c")}},
		{"&r [*r]", []api.Thing{q(0)}},
		{"[&a [*a], *a]", []api.Thing{q(1, 1), q(1)}},
		{"[&a x, *a, y, *a, &b z, *b, *a]", []api.Thing{q(1, 1, 2, 1, 3, 3, 1), s("!!str", "x"), s("!!str", "y"), s("!!str", "z")}},
		{"&r {k: &a {l: *r}, m: [*a, *r]}", []api.Thing{m(1, 2, 4, 5), s("!!str", "k"), m(3, 0), s("!!str", "l"), s("!!str", "m"), q(2, 0)}},
		{"[[[&a x]], {k: *a}, y]", []api.Thing{q(1, 4, 6), q(2), q(3), s("!!str", "x"), m(5, 3), s("!!str", "k"), s("!!str", "y")}},
	} {
		l := parsed(t, c.s)
		if g, e := Compose(l); e != api.OK || !sameThings(g, c.want) {
			t.Errorf("%q: %d %+v", c.s, e, g)
		}
	}
	// An Alias of an Alias is what that one is; one as a key is its target.
	l := placed(seq(1, 2, 3, 4), anchored("a", str("x")), anchored("b", alias("a")), alias("b"), mapping(5, 6), alias("b"), null())
	want := []api.Thing{q(1, 1, 1, 2), s("!!str", "x"), m(1, 3), s("!!null", "")}
	if g, e := Compose(l); e != api.OK || !sameThings(g, want) {
		t.Errorf("%d %+v", e, g)
	}
	// A thing is a Scalar, a Seq or a Map, whatever kind its node tells.
	l = placed(seq(1, 2), api.Node{Kind: 9, Tag: "!t"}, api.Node{Kind: -1, Tag: "!t"})
	if g, e := Compose(l); e != api.OK || !sameThings(g, []api.Thing{q(1, 2), s("!t", ""), s("!t", "")}) {
		t.Errorf("%d %+v", e, g)
	}
}

// checkByRule says by other means what P14.1 asks: it looks at all nodes ahead, and at all keys of all Maps.
func checkByRule(l []api.Node) (api.Errno, int) {
	for i, x := range l {
		ahead := func(anchor string) bool {
			return anchor != "" && slices.ContainsFunc(l[:i], func(y api.Node) bool { return y.Anchor == anchor })
		}
		if x.Kind == api.Alias && !ahead(x.Value) {
			return api.ErrAlias, x.Start
		}
		if ahead(x.Anchor) {
			return api.ErrTwice, x.Start
		}
		owner, place := tree.Parent(l, i)
		if owner < 0 || l[owner].Kind != api.Map || place%2 == 1 {
			continue
		}
		for j := 0; j < place; j += 2 {
			if y := l[l[owner].Kids[j]]; y.Tag == x.Tag && y.Value == x.Value {
				return api.ErrTwice, x.Start
			}
		}
	}
	return api.OK, 0
}

// firstWith is the first node with an anchor; -1: none.
func firstWith(l []api.Node, anchor string) int {
	return slices.IndexFunc(l, func(x api.Node) bool { return anchor != "" && x.Anchor == anchor })
}

// composeByRule walks from the root, from node to node.
func composeByRule(l []api.Node) []api.Thing {
	var out []api.Thing
	numbers := map[int]int{}
	var walk func(at int) int
	walk = func(at int) int {
		if l[at].Kind == api.Alias {
			return walk(firstWith(l, l[at].Value))
		}
		if n, ok := numbers[at]; ok {
			return n
		}
		n := len(out)
		numbers[at] = n
		out = append(out, api.Thing{Kind: max(l[at].Kind, api.Scalar), Tag: l[at].Tag, Value: l[at].Value})
		for _, k := range l[at].Kids {
			kid := walk(k)
			out[n].Kids = append(out[n].Kids, kid)
		}
		return n
	}
	walk(0)
	return out
}

// holdRule holds all four calls of a tree against the rule, and tells Check's error.
func holdRule(t *testing.T, l []api.Node) api.Errno {
	t.Helper()
	want, wantAt := checkByRule(l)
	if e, at := Check(l); e != want || at != wantAt {
		t.Fatalf("Check: %d at %d, not %d at %d:%s", e, at, want, wantAt, show(l))
	}
	anchors, targets := map[string]int{}, map[int]int{}
	for i, x := range l {
		if k := firstWith(l, x.Anchor); k >= 0 {
			anchors[x.Anchor] = k
		}
		if k := firstWith(l, x.Value); k >= 0 && x.Kind == api.Alias {
			targets[i] = k
		}
	}
	if got := Anchors(l); !maps.Equal(got, anchors) {
		t.Fatalf("Anchors %v:%s", got, show(l))
	}
	if got := Targets(l); !maps.Equal(got, targets) {
		t.Fatalf("Targets %v:%s", got, show(l))
	}
	var things []api.Thing
	if want == api.OK {
		things = composeByRule(l)
	}
	if got, e := Compose(l); e != want || !sameThings(got, things) {
		t.Fatalf("Compose: %d %+v\nof%s", e, got, show(l))
	}
	return want
}

// eachShape calls do with every tree of n nodes, each a Null, a Seq or a Map.
func eachShape(n int, do func(l []api.Node)) {
	// owners of the nodes from 1 on say all of a tree: each is the node ahead, or one around that.
	owners := make([]int, n)
	var each func(at int)
	each = func(at int) {
		if at == n {
			eachKind(owners, do)
			return
		}
		for o := at - 1; ; o = owners[o] {
			owners[at] = o
			each(at + 1)
			if o == 0 {
				return
			}
		}
	}
	each(1)
}

// eachKind calls do with every tree that has these owners.
func eachKind(owners []int, do func(l []api.Node)) {
	l := make([]api.Node, len(owners))
	for i, o := range owners[1:] {
		l[o].Kids = append(l[o].Kids, i+1)
	}
	var each func(at int)
	each = func(at int) {
		if at == len(l) {
			do(l)
			return
		}
		kinds := []int{api.Seq}
		if len(l[at].Kids)%2 == 0 {
			kinds = append(kinds, api.Map)
		}
		if len(l[at].Kids) == 0 {
			kinds = append(kinds, api.Null)
		}
		for _, kind := range kinds {
			l[at].Kind = kind
			each(at + 1)
		}
	}
	each(0)
}

// labels are what a node may be whose shape is of a kind.
func labels(kind int) []api.Node {
	var out []api.Node
	for _, anchor := range []string{"", "a"} {
		switch kind {
		case api.Seq, api.Map:
			out = append(out, api.Node{Kind: kind, Tag: "t", Anchor: anchor})
		default:
			out = append(out, api.Node{Kind: api.Null, Tag: "t", Anchor: anchor})
			for _, value := range []string{"", "a", "b"} {
				out = append(out, api.Node{Kind: api.Scalar, Tag: "t", Value: value, Anchor: anchor})
				out = append(out, api.Node{Kind: api.Alias, Value: value, Anchor: anchor})
			}
		}
	}
	return out
}

// P14.1, P14.2: all calls, of every tree of up to five nodes with few anchors, names and texts.
func TestByRule(t *testing.T) {
	var seen [12]int
	for n := 1; n <= 5; n++ {
		eachShape(n, func(shape []api.Node) {
			l := make([]api.Node, n)
			var each func(at int)
			each = func(at int) {
				if at == n {
					seen[holdRule(t, l)]++
					return
				}
				for _, x := range labels(shape[at].Kind) {
					x.Start, x.Kids = at+1, shape[at].Kids
					l[at] = x
					each(at + 1)
				}
			}
			each(0)
		})
	}
	if seen[api.OK] < 1000 || seen[api.ErrAlias] < 1000 || seen[api.ErrTwice] < 1000 {
		t.Error(seen)
	}
}

// P14.1, P14.2: all calls, of every shape of some nodes, each with labels drawn many times.
func TestByRuleOfDraws(t *testing.T) {
	rnd := rand.New(rand.NewSource(14))
	names := []string{"", "", "", "a", "b", "c", "d", "e"}
	var seen [12]int
	for n := 5; n <= 7; n++ {
		eachShape(n, func(shape []api.Node) {
			if !tree.Valid(shape) {
				t.Fatalf("no tree:%s", show(shape))
			}
			for range 6 {
				l := slices.Clone(shape)
				for i := range l {
					l[i].Tag, l[i].Start = []string{"t", "u"}[rnd.Intn(2)], i+1
					l[i].Anchor = names[rnd.Intn(len(names))]
					if l[i].Kind == api.Null && rnd.Intn(4) > 0 {
						l[i].Kind, l[i].Value = api.Scalar, names[rnd.Intn(len(names))]
					} else if l[i].Kind == api.Null && i > 0 && rnd.Intn(2) == 0 {
						l[i].Kind, l[i].Value = api.Alias, l[rnd.Intn(i)].Anchor
					}
				}
				seen[holdRule(t, l)]++
			}
		})
	}
	if seen[api.OK] < 1000 || seen[api.ErrAlias] < 1000 || seen[api.ErrTwice] < 1000 {
		t.Error(seen)
	}
}

// P14.1: a list that is empty is no tree; of it nothing is told.
func TestNone(t *testing.T) {
	for _, l := range [][]api.Node{nil, {}} {
		if e, at := Check(l); e != api.OK || at != 0 {
			t.Error(e, at)
		}
		if g, e := Compose(l); e != api.OK || len(g) != 0 {
			t.Error(g, e)
		}
		if len(Anchors(l)) != 0 || len(Targets(l)) != 0 {
			t.Error(Anchors(l), Targets(l))
		}
	}
}

// R1: long trees and deep ones are told as short ones.
func TestLong(t *testing.T) {
	const n = 1 << 16
	// n Seqs in one another, each with an anchor, and in the last one an Alias of each.
	var deep []api.Node
	for i := range n {
		deep = append(deep, anchored(fmt.Sprint("a", i), seq(i+1)))
	}
	deep[n-1].Kids = nil
	for i := range n {
		deep[n-1].Kids = append(deep[n-1].Kids, n+i)
		deep = append(deep, alias(fmt.Sprint("a", i)))
	}
	g, e := Compose(deep)
	if e != api.OK || len(g) != n || len(g[n-1].Kids) != n || g[n-1].Kids[0] != 0 || g[n-1].Kids[n-1] != n-1 || g[0].Kids[0] != 1 {
		t.Error("deep:", e, len(g))
	}
	// n keys, and behind them the first one again.
	wide := []api.Node{mapping()}
	for i := range n {
		wide[0].Kids = append(wide[0].Kids, len(wide), len(wide)+1)
		wide = append(wide, str(fmt.Sprint("k", i)), null())
	}
	if e, at := Check(wide); e != api.OK || at != 0 {
		t.Error("wide:", e, at)
	}
	last := len(wide) - 2
	wide[last].Value, wide[last].Start = "k0", 7
	if e, at := Check(wide); e != api.ErrTwice || at != 7 {
		t.Error("wide, a key twice:", e, at)
	}
}

// R1: the calls end, whatever the list is.
func TestAnyList(t *testing.T) {
	rnd := rand.New(rand.NewSource(41))
	odd := []int{math.MinInt, -1, 0, 1, 2, 3, 4, 5, 6, math.MaxInt}
	names := []string{"", "a", "b"}
	for range 100000 {
		l := make([]api.Node, rnd.Intn(6))
		for i := range l {
			l[i] = api.Node{Kind: rnd.Intn(7) - 1, Anchor: names[rnd.Intn(3)], Value: names[rnd.Intn(3)]}
			for range rnd.Intn(4) {
				l[i].Kids = append(l[i].Kids, odd[rnd.Intn(len(odd))])
			}
		}
		e, _ := Check(l)
		if g, ce := Compose(l); ce != e || e != api.OK && len(g) != 0 {
			t.Fatalf("%d, %d:%s", e, ce, show(l))
		}
		Anchors(l)
		Targets(l)
	}
}

// spare is l with memory behind its length, and behind that of each Kids; whole is all of that.
func spare(l []api.Node) (out, whole []api.Node) {
	whole = append(slices.Clone(l), anchored("behind", mapping(0, 0)), alias("behind"))
	for i := range l {
		whole[i].Kids = append(slices.Clone(l[i].Kids), 0, 0)[:len(l[i].Kids)]
	}
	return whole[:len(l)], whole
}

// holdUntouched holds what spare gave of l to be as it was, behind its length as well.
func holdUntouched(t *testing.T, l, whole []api.Node) {
	t.Helper()
	_, want := spare(l)
	for i := range want {
		a, b := want[i], whole[i]
		behind := 0
		if i < len(l) {
			behind = 2
		}
		if !slices.Equal(a.Kids[:len(a.Kids)+behind], b.Kids[:len(b.Kids)+behind]) {
			t.Fatalf("Kids of %d: %v", i, b.Kids)
		}
		a.Kids, b.Kids = nil, nil
		if fmt.Sprint(a) != fmt.Sprint(b) {
			t.Fatalf("%d: %+v", i, b)
		}
	}
}

// R4, R5: what is handed in is neither changed nor kept; each answer is new memory, and the same each time.
func TestMemory(t *testing.T) {
	for _, s := range []string{"&r [&a x, {k: *a, n: *r, m: [*a]}, ~]", "{a: 1, a: 2}", "[&a x, &a y, *a]", "[*a]", "{}"} {
		l := parsed(t, s)
		in, whole := spare(l)
		things, e := Compose(in)
		want, _ := Compose(in)
		anchors, targets := Anchors(in), Targets(in)
		for i := range things {
			kids := things[i].Kids[:cap(things[i].Kids)]
			for j := range kids {
				kids[j] = -9
			}
			things[i].Tag = "!other"
		}
		clear(anchors)
		clear(targets)
		anchors["other"], targets[77] = 7, 7
		holdUntouched(t, l, whole)
		again, e2 := Compose(in)
		if e != e2 || !sameThings(again, want) {
			t.Errorf("%q: %d %+v", s, e2, again)
		}
		if got := Anchors(in); !maps.Equal(got, Anchors(l)) {
			t.Errorf("%q: %v", s, got)
		}
		if got := Targets(in); !maps.Equal(got, Targets(l)) {
			t.Errorf("%q: %v", s, got)
		}
		for i := range in {
			in[i] = api.Node{Kind: api.Alias}
		}
		if !sameThings(again, want) {
			t.Errorf("%q: what was handed in is kept", s)
		}
	}
}

// R4: no two Kids of an answer share memory.
func TestMemoryApart(t *testing.T) {
	g, _ := Compose(parsed(t, "[&a [x, y], {k: *a}, [[], z]]"))
	var want []api.Thing
	for _, x := range g {
		x.Kids = slices.Clone(x.Kids)
		want = append(want, x)
	}
	for i := range g {
		kids := g[i].Kids[:cap(g[i].Kids)]
		for j := range kids {
			kids[j] = -9
		}
		g[i].Kids = slices.Clone(want[i].Kids)
		if !sameThings(g, want) {
			t.Fatalf("Kids of %d are those of another as well: %+v", i, g)
		}
	}
}

// P14.1: a Name is a key: its tag, its text.
func TestName(t *testing.T) {
	names := map[Name]int{{Tag: "!!str", Value: "1"}: 1, {Tag: "!!int", Value: "1"}: 2}
	if names[Name{"!!str", "1"}] != 1 || names[Name{"!!int", "1"}] != 2 || len(names) != 2 {
		t.Error(names)
	}
}
