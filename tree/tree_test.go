package tree

import (
	"fmt"
	"math"
	"math/rand"
	"slices"
	"testing"

	"scholium/api"
	"scholium/inline"
)

// show is a list of nodes with a node a line, for what a test tells.
func show(l []api.Node) string {
	text := ""
	for _, x := range l[:min(len(l), 12)] {
		text += fmt.Sprintf("\n\t%+v", x)
	}
	return text
}

// equal tells whether both lists have the same nodes, styles and places as well.
func equal(a, b []api.Node) bool {
	return slices.EqualFunc(a, b, func(x, y api.Node) bool {
		kids := slices.Equal(x.Kids, y.Kids)
		x.Kids, y.Kids = nil, nil
		return kids && fmt.Sprint(x) == fmt.Sprint(y)
	})
}

// deepCopy is l in new memory.
func deepCopy(l []api.Node) []api.Node {
	out := slices.Clone(l)
	for i := range out {
		out[i].Kids = slices.Clone(out[i].Kids)
	}
	return out
}

// parsed is the tree of a text on one line.
func parsed(t *testing.T, s string) []api.Node {
	t.Helper()
	l, e := inline.Parse(s, false)
	if e != api.OK {
		t.Fatalf("%q: %d", s, e)
	}
	return l
}

// A branch is a node with what is below it: what a tree is without any counting.
type branch struct {
	node  api.Node
	below []*branch
}

// list lays a branch out as a list.
func (b *branch) list() []api.Node {
	return b.laid(nil)
}

func (b *branch) laid(l []api.Node) []api.Node {
	at := len(l)
	l = append(l, b.node)
	l[at].Kids = nil
	for _, k := range b.below {
		l[at].Kids = append(l[at].Kids, len(l))
		l = k.laid(l)
	}
	return l
}

// all are the branches of b, in the order of a walk.
func (b *branch) all() []*branch {
	out := []*branch{b}
	for _, k := range b.below {
		out = append(out, k.all()...)
	}
	return out
}

// with is b with m in place of its branch old.
func (b *branch) with(old, m *branch) *branch {
	if b == old {
		return m
	}
	out := &branch{node: b.node}
	for _, k := range b.below {
		out.below = append(out.below, k.with(old, m))
	}
	return out
}

// depth is how many collections stand in one another in b at most.
func (b *branch) depth() int {
	most := 0
	for _, k := range b.below {
		most = max(most, k.depth())
	}
	if b.node.Kind == api.Seq || b.node.Kind == api.Map {
		most++
	}
	return most
}

// grown are all branches of size nodes, each of them with every kind that it may have.
func grown(size int) []*branch {
	var out []*branch
	for _, below := range rows(size - 1) {
		kinds := []int{api.Seq}
		if len(below)%2 == 0 {
			kinds = append(kinds, api.Map)
		}
		if len(below) == 0 {
			kinds = append(kinds, api.Null, api.Scalar, api.Alias)
		}
		for _, kind := range kinds {
			out = append(out, &branch{node: api.Node{Kind: kind}, below: below})
		}
	}
	return out
}

// rows are all rows of branches that have size nodes together.
func rows(size int) [][]*branch {
	if size == 0 {
		return [][]*branch{nil}
	}
	var out [][]*branch
	for first := 1; first <= size; first++ {
		for _, b := range grown(first) {
			for _, more := range rows(size - first) {
				out = append(out, append([]*branch{b}, more...))
			}
		}
	}
	return out
}

// marked is b as a new branch, its nodes told apart by all that they have.
func marked(b *branch, from int) *branch {
	next := from
	var walk func(b *branch) *branch
	walk = func(b *branch) *branch {
		n := next
		next++
		out := &branch{node: api.Node{Kind: b.node.Kind, Style: n % 8, Tag: fmt.Sprint("!t", n), Anchor: fmt.Sprint("a", n), Value: fmt.Sprint("v", n), Start: n*10 + 1, End: n*10 + 2, Head: n*10 + 3, Mark: n*10 + 4}}
		for _, k := range b.below {
			out.below = append(out.below, walk(k))
		}
		return out
	}
	return walk(b)
}

// marks are all branches of at most most nodes, marked.
func marks(most, from int) []*branch {
	var out []*branch
	for size := 1; size <= most; size++ {
		for _, b := range grown(size) {
			out = append(out, marked(b, from))
		}
	}
	return out
}

// validByRule says by other means what P13.1 asks: it counts whose Kid each node is, and walks.
func validByRule(l []api.Node) bool {
	if len(l) == 0 {
		return false
	}
	owners := make([]int, len(l))
	for _, x := range l {
		for j, k := range x.Kids {
			if k < 0 || k >= len(l) || j > 0 && k <= x.Kids[j-1] {
				return false
			}
			owners[k]++
		}
		if len(x.Kids) > 0 && x.Kind != api.Seq && x.Kind != api.Map || x.Kind == api.Map && len(x.Kids)%2 == 1 {
			return false
		}
	}
	for i, n := range owners {
		if n != min(i, 1) {
			return false
		}
	}
	var order []int
	var walk func(at int)
	walk = func(at int) {
		order = append(order, at)
		for _, k := range l[at].Kids {
			walk(k)
		}
	}
	walk(0) // ends: each node is a Kid of at most one, and the first of none
	for i, at := range order {
		if i != at {
			return false
		}
	}
	return len(order) == len(l)
}

// P13.1: the chapter's example.
func TestExample(t *testing.T) {
	l := parsed(t, "[[a]]")
	if got := Depth(l); got != 2 {
		t.Errorf("Depth: %d", got)
	}
	if !Valid(l) {
		t.Errorf("not Valid:%s", show(l))
	}
}

// scalars are n Scalars behind the nodes l.
func scalars(n int, l ...api.Node) []api.Node {
	for range n {
		l = append(l, api.Node{Kind: api.Scalar})
	}
	return l
}

func seq(kids ...int) api.Node { return api.Node{Kind: api.Seq, Kids: kids} }
func mapping(kids ...int) api.Node {
	return api.Node{Kind: api.Map, Kids: kids}
}

// P13.1: Valid, of each thing that makes a list a tree.
func TestValid(t *testing.T) {
	for _, c := range []struct {
		name string
		l    []api.Node
		want bool
	}{
		{"none", nil, false},
		{"the empty list", []api.Node{}, false},
		{"a Null", []api.Node{{}}, true},
		{"a Scalar", scalars(1), true},
		{"an Alias", []api.Node{{Kind: api.Alias, Value: "a"}}, true},
		{"an empty Seq", []api.Node{seq()}, true},
		{"an empty Map", []api.Node{mapping()}, true},
		{"a Seq of one", scalars(1, seq(1)), true},
		{"a Map of one", scalars(2, mapping(1, 2)), true},
		{"a Map with one Kid", scalars(1, mapping(1)), false},
		{"a Map with three Kids", scalars(3, mapping(1, 2, 3)), false},
		{"a Map with four Kids", scalars(4, mapping(1, 2, 3, 4)), true},
		{"a Map with a Seq as a key", append(scalars(1, mapping(1, 3), seq(2)), scalars(1)...), true},
		{"a Map within a Seq with one Kid", scalars(1, seq(1), mapping(2)), false},
		{"two nodes that nothing binds", scalars(2), false},
		{"a node behind the tree", scalars(2, seq(1)), false},
		{"a node between that is no Kid", scalars(2, seq(2)), false},
		{"Kids that fall", scalars(2, seq(2, 1)), false},
		{"a Kid twice", scalars(1, seq(1, 1)), false},
		{"a Kid of two", scalars(1, seq(1, 2), seq(2)), false},
		{"a Kid of two, of the lower one first", scalars(2, seq(1, 3), seq(2, 3)), false},
		{"a Kid that is the node", []api.Node{seq(0)}, false},
		{"a Kid that is the first", []api.Node{seq(1), seq(0)}, false},
		{"a Kid below 0", scalars(1, seq(-1)), false},
		{"a Kid below 0 beside one", scalars(1, seq(-1, 1)), false},
		{"a Kid past the list", scalars(1, seq(1, 2)), false},
		{"a Kid at the list's end", []api.Node{seq(1)}, false},
		{"the least Kid", scalars(1, seq(math.MinInt)), false},
		{"the greatest Kid", scalars(1, seq(math.MaxInt)), false},
		{"a Scalar with a Kid", scalars(1, api.Node{Kind: api.Scalar, Kids: []int{1}}), false},
		{"a Null with a Kid", scalars(1, api.Node{Kind: api.Null, Kids: []int{1}}), false},
		{"an Alias with a Kid", scalars(1, api.Node{Kind: api.Alias, Kids: []int{1}}), false},
		{"a kind that is none with a Kid", scalars(1, api.Node{Kind: 5, Kids: []int{1}}), false},
		{"by levels, not by a walk", scalars(2, seq(1, 2), seq(3), seq(4)), false},
		{"by a walk", []api.Node{seq(1, 3), seq(2), {Kind: api.Scalar}, seq(4), {Kind: api.Scalar}}, true},
		{"Kids ahead of their node", []api.Node{{Kind: api.Scalar}, seq(0)}, false},
		{"a circle beside the first", []api.Node{{Kind: api.Scalar}, seq(2), seq(1)}, false},
	} {
		if got := Valid(c.l); got != c.want {
			t.Errorf("%s: %v", c.name, got)
		}
	}
}

// eachKids calls do with every list of at most most numbers from -1 to n.
func eachKids(most, n int, kids []int, do func(kids []int)) {
	do(kids)
	if most == 0 {
		return
	}
	for k := -1; k <= n; k++ {
		eachKids(most-1, n, append(slices.Clip(kids), k), do)
	}
}

// P13.1: Valid, of every short list.
func TestValidByRule(t *testing.T) {
	for n, most := range []int{1: 3, 2: 3, 3: 2} {
		var each func(l []api.Node)
		trees := 0
		each = func(l []api.Node) {
			if len(l) == n {
				want := validByRule(l)
				if got := Valid(l); got != want {
					t.Fatalf("%v:%s", got, show(l))
				}
				if want {
					trees++
				}
				return
			}
			for _, kind := range []int{api.Scalar, api.Seq, api.Map} {
				eachKids(most, n, nil, func(kids []int) { each(append(slices.Clip(l), api.Node{Kind: kind, Kids: kids})) })
			}
		}
		each(nil)
		// 1: three kinds; 2: a Seq of each; 3: a Seq of a Seq of each, a Seq of two, a Map of two.
		if want := []int{0, 3, 3, 3 + 9 + 9}[n]; trees != want {
			t.Errorf("of %d nodes: %d trees", n, trees)
		}
	}
}

// P13.1: Valid, of every tree of some nodes, and of what comes when one Kid or kind is another.
func TestValidOneOff(t *testing.T) {
	for _, b := range marks(5, 0) {
		l := b.list()
		if !Valid(l) || !validByRule(l) {
			t.Fatalf("not Valid:%s", show(l))
		}
		for i := range l {
			holdTurned(t, l, func(m []api.Node) { m[i].Kids = append(m[i].Kids, len(l)) })
			holdTurned(t, l, func(m []api.Node) { m[i].Kids = append(m[i].Kids, len(l)-1) })
			for kind := -1; kind <= 5; kind++ {
				holdTurned(t, l, func(m []api.Node) { m[i].Kind = kind })
			}
			for j := range l[i].Kids {
				holdTurned(t, l, func(m []api.Node) { m[i].Kids = slices.Delete(m[i].Kids, j, j+1) })
				for k := -1; k <= len(l); k++ {
					holdTurned(t, l, func(m []api.Node) { m[i].Kids[j] = k })
				}
			}
		}
	}
}

func holdTurned(t *testing.T, l []api.Node, turn func(m []api.Node)) {
	t.Helper()
	m := deepCopy(l)
	turn(m)
	if got := Valid(m); got != validByRule(m) {
		t.Fatalf("%v:%s", got, show(m))
	}
}

// P13.1: a text's nodes are a tree, and so is what each call makes of them.
func TestOfTexts(t *testing.T) {
	for _, s := range []string{"a", "~", "*a", "[]", "{}", "[a]", "{a: b}", "{a: }", "[[a, b], {c: d}]", "{a: {b: [c, {d: e}]}, f: []}", "[!t &x a, *x, {'k': \"v\"}]"} {
		l := parsed(t, s)
		if !Valid(l) || !Valid(Shift(l, 7)) {
			t.Errorf("%q: not Valid:%s", s, show(l))
		}
		for at := range l {
			if sub := Sub(l, at); !Valid(sub) || !equal(Graft(l, at, sub), l) || !Valid(Graft(l, at, l)) {
				t.Errorf("%q at %d:%s", s, at, show(sub))
			}
		}
	}
}

// P13.1: Same counts Kind, Tag, Anchor, Value and Kids, nothing else.
func TestSame(t *testing.T) {
	l := parsed(t, "[[a, b], {c: d}]")
	for name, turn := range map[string]func(x *api.Node){
		"nothing":       func(x *api.Node) {},
		"Style":         func(x *api.Node) { x.Style = api.Double },
		"Start":         func(x *api.Node) { x.Start++ },
		"End":           func(x *api.Node) { x.End++ },
		"Head":          func(x *api.Node) { x.Head++ },
		"Mark":          func(x *api.Node) { x.Mark++ },
		"all of these":  func(x *api.Node) { x.Style, x.Start, x.End, x.Head, x.Mark = 9, 99, 98, 97, 96 },
		"the Kids' own": func(x *api.Node) { x.Kids = append([]int{}, x.Kids...) },
	} {
		for i := range l {
			m := deepCopy(l)
			turn(&m[i])
			if !Same(l, m) || !Same(m, l) {
				t.Errorf("%s of %d: not Same", name, i)
			}
		}
	}
	for name, turn := range map[string]func(x *api.Node){
		"Kind":     func(x *api.Node) { x.Kind++ },
		"Tag":      func(x *api.Node) { x.Tag += "x" },
		"no Tag":   func(x *api.Node) { x.Tag = "" },
		"Anchor":   func(x *api.Node) { x.Anchor = "x" },
		"Value":    func(x *api.Node) { x.Value += "\x00" },
		"one more": func(x *api.Node) { x.Kids = append(x.Kids, 9) },
		"another":  func(x *api.Node) { x.Kids = append([]int{8}, x.Kids[min(1, len(x.Kids)):]...) },
	} {
		for i := range l {
			m := deepCopy(l)
			turn(&m[i])
			if Same(l, m) || Same(m, l) {
				t.Errorf("%s of %d: Same", name, i)
			}
		}
	}
}

// P13.1: Same holds of lists of one length alone, and of texts that say the same in other words.
func TestSameOfTexts(t *testing.T) {
	for _, c := range []struct {
		a, b string
		want bool
	}{
		{"a", "a", true},
		{"a", "'a'", true},
		{"a", "\"\\x61\"", true},
		{"1", "'1'", false}, // of another Tag
		{"1", "!!str 1", false},
		{"'1'", "!!str 1", true},
		{"1", "01", false},
		{"~", "null", false},
		{"{a: }", "{a: ~}", false}, // a Null, a Scalar
		{"[a,b]", "[ a , b ]", true},
		{"[a, b]", "[b, a]", false},
		{"{a: 1, b: 2}", "{b: 2, a: 1}", false},
		{"[a, b]", "{a: b}", false},
		{"[]", "{}", false},
		{"[[], a]", "[[a]]", false}, // just the Kids differ
		{"[[a], b]", "[[a, b]]", false},
		{"&x a", "a", false},
		{"&x a", "&y a", false},
		{"*x", "*x", true},
		{"*x", "*y", false},
		{"*x", "x", false},
		{"[a]", "[a, b]", false},
	} {
		a, b := parsed(t, c.a), parsed(t, c.b)
		if Same(a, b) != c.want || Same(b, a) != c.want {
			t.Errorf("%q, %q: %v", c.a, c.b, !c.want)
		}
	}
	if !Same(nil, []api.Node{}) || Same(nil, scalars(1)) || Same(scalars(1), nil) {
		t.Error("of no nodes")
	}
}

// P13.1: Same, of every two trees of some nodes.
func TestSameByRule(t *testing.T) {
	var lists [][]api.Node
	for size := 1; size <= 4; size++ {
		for _, b := range grown(size) {
			lists = append(lists, b.list())
		}
	}
	for i, a := range lists {
		for j, b := range lists {
			if Same(a, b) != (i == j) {
				t.Fatalf("%v:%s\nand%s", i != j, show(a), show(b))
			}
		}
	}
}

// P13.1: Sub, Depth, Parent, Shift, held against branches, of every tree of some nodes and at each of its nodes.
func TestByBranches(t *testing.T) {
	for _, b := range marks(6, 0) {
		l, all := b.list(), b.all()
		if got := Depth(l); got != b.depth() {
			t.Fatalf("Depth %d:%s", got, show(l))
		}
		for at, x := range all {
			if got := Sub(l, at); !equal(got, x.list()) {
				t.Fatalf("Sub at %d:%s\nof%s", at, show(got), show(l))
			}
			for place, k := range x.below {
				if p, got := Parent(l, slices.Index(all, k)); p != at || got != place {
					t.Fatalf("Parent %d, %d, not %d, %d:%s", p, got, at, place, show(l))
				}
			}
		}
		moved := deepCopy(l)
		for i := range moved {
			moved[i].Start, moved[i].End = moved[i].Start-5, moved[i].End-5
			moved[i].Head, moved[i].Mark = moved[i].Head-5, moved[i].Mark-5
		}
		if got := Shift(l, -5); !equal(got, moved) {
			t.Fatalf("Shift:%s", show(got))
		}
		if got := Shift(moved, 5); !equal(got, l) {
			t.Fatalf("Shift back:%s", show(got))
		}
	}
}

// P13.1: Graft, held against branches: every small tree into every other one at each node.
func TestGraftByBranches(t *testing.T) {
	grafts := marks(3, 100)
	for _, b := range marks(4, 0) {
		l := b.list()
		for at, x := range b.all() {
			for _, m := range grafts {
				got := Graft(l, at, m.list())
				if !equal(got, b.with(x, m).list()) || !Valid(got) {
					t.Fatalf("Graft at %d:%s\nof%s\nand%s", at, show(got), show(l), show(m.list()))
				}
			}
		}
	}
}

// P13.1: no node is at a place below 0, or past the list.
func TestNone(t *testing.T) {
	m := scalars(1)
	for _, l := range [][]api.Node{nil, {}, scalars(1), parsed(t, "[[a, b], {c: d}]")} {
		for _, at := range []int{math.MinInt, -2, -1, len(l), len(l) + 1, math.MaxInt} {
			if got := Sub(l, at); len(got) != 0 {
				t.Errorf("Sub at %d of %d: %s", at, len(l), show(got))
			}
			if p, k := Parent(l, at); p != -1 || k != -1 {
				t.Errorf("Parent at %d of %d: %d, %d", at, len(l), p, k)
			}
			if got := Graft(l, at, m); !equal(got, l) {
				t.Errorf("Graft at %d of %d: %s", at, len(l), show(got))
			}
		}
		if p, k := Parent(l, 0); p != -1 || k != -1 {
			t.Errorf("Parent of the first of %d: %d, %d", len(l), p, k)
		}
	}
	if len(Shift(nil, 3)) != 0 || Depth(nil) != 0 {
		t.Error("of no nodes")
	}
}

// P13.1: Depth counts collections, empty ones and those in a key, and no other node.
func TestDepth(t *testing.T) {
	for _, c := range []struct {
		s    string
		want int
	}{
		{"a", 0}, {"*a", 0}, {"!t", 0}, {"[]", 1}, {"{}", 1}, {"[a]", 1}, {"{a: b}", 1}, {"[a, b, c]", 1},
		{"[[]]", 2}, {"[{}]", 2}, {"{a: []}", 2}, {"[[], []]", 2}, {"[[a], b]", 2}, {"[a, [b]]", 2}, {"[[a]]", 2},
		{"[[[]], []]", 3}, {"[[], [[]], []]", 3}, {"{a: {b: {c: }}, d: [e]}", 3},
	} {
		if got := Depth(parsed(t, c.s)); got != c.want {
			t.Errorf("%q: %d", c.s, got)
		}
	}
	if got := Depth([]api.Node{mapping(1, 3), seq(2), seq(), {Kind: api.Scalar}}); got != 3 {
		t.Errorf("in a key: %d", got)
	}
}

// chain is a tree of n nodes in one another, the last one a Scalar.
func chain(n int) []api.Node {
	l := make([]api.Node, n)
	for i := range n - 1 {
		l[i] = seq(i + 1)
	}
	l[n-1].Kind = api.Scalar
	return l
}

// wide is a Seq of n Scalars.
func wide(n int) []api.Node {
	l := scalars(n, seq())
	for i := range n {
		l[0].Kids = append(l[0].Kids, i+1)
	}
	return l
}

// R1: long trees and deep ones are told as short ones.
func TestLong(t *testing.T) {
	const n = 1 << 17
	for _, c := range []struct {
		name  string
		l     []api.Node
		depth int
	}{{"deep", chain(n), n - 1}, {"wide", wide(n), 1}} {
		l := c.l
		if !Valid(l) || Depth(l) != c.depth || !Same(l, Shift(l, 1)) {
			t.Errorf("%s", c.name)
		}
		for _, at := range []int{0, 1, n / 2, n - 2, n - 1} {
			g := Graft(l, at, scalars(1, seq(1)))
			if !Valid(g) || !Same(Sub(g, at), scalars(1, seq(1))) || !Same(Graft(g, at, Sub(l, at)), l) {
				t.Errorf("%s: Graft at %d", c.name, at)
			}
			p, place := Parent(l, at)
			if at > 0 && l[p].Kids[place] != at {
				t.Errorf("%s: Parent at %d: %d, %d", c.name, at, p, place)
			}
		}
		l[n-1].Kind, l[n-1].Kids = api.Seq, []int{n - 1}
		if Valid(l) {
			t.Errorf("%s: a Kid of itself", c.name)
		}
	}
}

// R1: Valid is asked of any list; the other calls end as well, whatever the list is.
func TestAnyList(t *testing.T) {
	rnd := rand.New(rand.NewSource(13))
	odd := []int{math.MinInt, -1, 0, 1, 2, 3, 4, 5, 6, math.MaxInt - 1, math.MaxInt}
	for range 200000 {
		l := make([]api.Node, rnd.Intn(6))
		for i := range l {
			l[i].Kind = rnd.Intn(5)
			for range rnd.Intn(4) {
				k := odd[rnd.Intn(len(odd))]
				if rnd.Intn(2) == 0 {
					k = i + 1 + rnd.Intn(3)
				}
				l[i].Kids = append(l[i].Kids, k)
			}
		}
		if got := Valid(l); got != validByRule(l) {
			t.Fatalf("%v:%s", got, show(l))
		}
		at := odd[rnd.Intn(len(odd))]
		Sub(l, at)
		Graft(l, at, l)
		Parent(l, at)
		Depth(l)
		if !Same(l, Shift(l, at)) {
			t.Fatalf("Shift:%s", show(l))
		}
	}
}

// spare is l with memory behind its length, and behind that of each Kids; whole is all of that.
func spare(l []api.Node) (out, whole []api.Node) {
	whole = append(deepCopy(l), api.Node{Kind: api.Map, Value: "behind", Kids: []int{1, 2}}, api.Node{Kind: api.Seq, Kids: []int{3}})
	for i := range l {
		whole[i].Kids = append(whole[i].Kids, 77, 78)[:len(l[i].Kids)]
	}
	return whole[:len(l)], whole
}

// untouched tells whether what spare gave of l is still as it was.
func untouched(l, whole []api.Node) bool {
	for i := range l {
		if kids := whole[i].Kids; !slices.Equal(kids[:len(kids)+2], append(slices.Clone(l[i].Kids), 77, 78)) {
			return false
		}
	}
	behind := whole[len(l):]
	return equal(whole[:len(l)], l) && behind[0].Value == "behind" && slices.Equal(behind[0].Kids, []int{1, 2}) && slices.Equal(behind[1].Kids, []int{3})
}

// scratch writes over all that a list has, behind its length as well.
func scratch(l []api.Node) {
	l = l[:cap(l)]
	for i := range l {
		kids := l[i].Kids[:cap(l[i].Kids)]
		for j := range kids {
			kids[j] = -9
		}
		l[i] = api.Node{Kind: -9}
	}
}

// P13.1, R4: what is handed in is neither changed nor kept, and what is handed out is new memory, the Kids as well.
func TestMemory(t *testing.T) {
	l := parsed(t, "[[a, b], {c: [d, e]}]")
	for at := range l {
		in, whole := spare(l)
		for name, call := range map[string]func() []api.Node{
			"Sub":             func() []api.Node { return Sub(in, at) },
			"Shift":           func() []api.Node { return Shift(in, 3) },
			"Shift by 0":      func() []api.Node { return Shift(in, 0) },
			"Graft":           func() []api.Node { return Graft(in, at, in) },
			"Graft at none":   func() []api.Node { return Graft(in, -1, in) },
			"Graft of itself": func() []api.Node { return Graft(in[:1:1], 0, in) },
		} {
			want := call()
			first, second := call(), call()
			if !equal(first, want) || !equal(second, want) || !untouched(l, whole) {
				t.Fatalf("%s at %d:%s", name, at, show(first))
			}
			scratch(first)
			if !equal(second, want) || !untouched(l, whole) {
				t.Errorf("%s at %d: its answer shares memory", name, at)
			}
			holdApart(t, second)
		}
		Valid(in)
		Same(in, whole[:len(l)])
		Depth(in)
		Parent(in, at)
		if !untouched(l, whole) {
			t.Errorf("at %d: changed", at)
		}
	}
}

// holdApart tells whether no two Kids of a list share memory.
func holdApart(t *testing.T, l []api.Node) {
	t.Helper()
	want := deepCopy(l)
	for i := range l {
		kids := l[i].Kids[:cap(l[i].Kids)]
		was := slices.Clone(kids)
		for j := range kids {
			kids[j] = -9
		}
		for j := range l {
			if j != i && !slices.Equal(l[j].Kids, want[j].Kids) {
				t.Errorf("the Kids of %d and %d share memory", i, j)
			}
		}
		copy(kids, was)
	}
}

// P13.1, R4: what was handed in may be changed when the call has answered.
func TestNotKept(t *testing.T) {
	l := parsed(t, "[[a, b], {c: d}]")
	m := parsed(t, "{x: [y]}")
	in, graft := deepCopy(l), deepCopy(m)
	sub, shifted, grafted := Sub(in, 1), Shift(in, 2), Graft(in, 3, graft)
	scratch(in)
	scratch(graft)
	if !equal(sub, Sub(l, 1)) || !equal(shifted, Shift(l, 2)) || !equal(grafted, Graft(l, 3, m)) {
		t.Error("kept")
	}
}
