package syntax

import (
	"math"
	"slices"
	"strconv"
	"strings"
	"testing"

	"schemalens/api"
)

func leaf(id, kind int, text string) api.Node {
	return api.Node{ID: id, Kind: kind, Text: text}
}

func inner(id, kind int, kids ...api.Node) api.Node {
	return api.Node{ID: id, Kind: kind, Kids: kids}
}

// example returns the tree of the chapter's examples, with IDs of its own.
func example() api.Node {
	return inner(10, api.NBinary,
		inner(21, api.NName, leaf(32, api.Lower, "a")),
		leaf(43, api.Symbol, "+"),
		inner(54, api.NLiteral, leaf(65, api.Space, " "), leaf(76, api.Number, "1")))
}

// gaps returns a tree with leaves that have no text and inner nodes that have no Kids,
// in front, in between and at the end.
func gaps() api.Node {
	return inner(0, api.NModule,
		leaf(1, api.Space, ""),
		inner(2, api.NError),
		inner(3, api.NFun, leaf(4, api.Keyword, "fun"), leaf(5, api.Bad, ""), inner(6, api.NError, inner(7, api.NHole))),
		leaf(8, api.Comment, ""),
		leaf(9, api.String, "\"\u20ac\xff\""),
		inner(10, api.NList, leaf(11, api.Upper, "")))
}

// show writes a tree down with its IDs; trees that are written alike are the same,
// for empty and nil Kids are.
func show(n api.Node) string {
	return strconv.Itoa(n.ID) + "=" + showParts(n, show)
}

// shape is show without IDs.
func shape(n api.Node) string { return showParts(n, shape) }

func showParts(n api.Node, kid func(api.Node) string) string {
	var kids []string
	for _, k := range n.Kids {
		kids = append(kids, kid(k))
	}
	return strconv.Itoa(n.Kind) + strconv.QuoteToASCII(n.Text) + "(" + strings.Join(kids, " ") + ")"
}

func checkTree(t *testing.T, what string, got, want api.Node) {
	t.Helper()
	if show(got) != show(want) {
		t.Errorf("%s = %s, want %s", what, show(got), show(want))
	}
}

func TestExamples(t *testing.T) { // P7.1, P7.3, P7.4
	n := example()
	if Text(n) != "a+ 1" || Width(n) != 4 || Count(n) != 7 || Depth(n) != 3 {
		t.Errorf("the text is %q, the width %d, the count %d and the depth %d", Text(n), Width(n), Count(n), Depth(n))
	}
	if path, ok := Path(n, 2); !ok || !slices.Equal(path, []int{2, 0}) {
		t.Errorf("Path of 2 = %v, %t", path, ok)
	}
	if path, ok := Path(n, 4); ok || path != nil {
		t.Errorf("Path of 4 = %v, %t", path, ok)
	}
	got, offset, ok := Get(n, []int{2})
	if offset != 2 || !ok {
		t.Errorf("the offset of the NLiteral is %d, %t", offset, ok)
	}
	checkTree(t, "Get", got, inner(54, api.NLiteral, leaf(65, api.Space, " "), leaf(76, api.Number, "1")))
}

func TestMeasures(t *testing.T) { // P7.1
	for _, c := range []struct {
		tree         api.Node
		text         string
		count, depth int
	}{
		{api.Node{}, "", 1, 1}, // a Space without text
		{leaf(1, api.Lower, "abc"), "abc", 1, 1},
		{leaf(1, api.Bad, "\u20ac\xff"), "\u20ac\xff", 1, 1},
		{inner(1, api.NError), "", 1, 1},
		{api.Node{Kind: api.NError, Kids: []api.Node{}}, "", 1, 1},
		{inner(1, api.NParen, inner(2, api.NError)), "", 2, 2},
		{inner(1, api.NList, leaf(2, api.Symbol, "["), leaf(3, api.Symbol, "]")), "[]", 3, 2},
		{example(), "a+ 1", 7, 3},
		{gaps(), "fun\"\u20ac\xff\"", 12, 4},
		{inner(1, api.NList, inner(2, api.NParen, inner(3, api.NName, leaf(4, api.Lower, "x"))), leaf(5, api.Lower, "y")), "xy", 5, 4},
		{inner(1, api.NList, leaf(2, api.Lower, "x"), inner(3, api.NParen, inner(4, api.NName, leaf(5, api.Lower, "y")))), "xy", 5, 4},
	} {
		if got := Text(c.tree); got != c.text {
			t.Errorf("Text(%s) = %+q, want %+q", show(c.tree), got, c.text)
		}
		if got := Width(c.tree); got != len(c.text) {
			t.Errorf("Width(%s) = %d, want %d", show(c.tree), got, len(c.text))
		}
		if got := Count(c.tree); got != c.count {
			t.Errorf("Count(%s) = %d, want %d", show(c.tree), got, c.count)
		}
		if got := Depth(c.tree); got != c.depth {
			t.Errorf("Depth(%s) = %d, want %d", show(c.tree), got, c.depth)
		}
	}
}

func TestLeavesAreToldByTheirKinds(t *testing.T) { // P7.1, P7.2
	for kind := range 70 {
		kind -= 10
		if 0 <= kind && kind <= 8 {
			want := []api.Token{{Kind: kind, Text: "xy", At: 0}}
			if got := Leaves(leaf(1, kind, "xy")); !slices.Equal(got, want) || Text(leaf(1, kind, "xy")) != "xy" {
				t.Errorf("Leaves of a leaf of the kind %d = %#v", kind, got)
			}
			want[0].Text = ""
			if got := Leaves(leaf(1, kind, "")); !slices.Equal(got, want) {
				t.Errorf("Leaves of an empty leaf of the kind %d = %#v", kind, got)
			}
			continue
		}
		n := inner(1, kind, leaf(2, api.Lower, "x"))
		if got := Leaves(n); !slices.Equal(got, []api.Token{{Kind: api.Lower, Text: "x"}}) || Text(n) != "x" {
			t.Errorf("Leaves of a node of the kind %d = %#v", kind, got)
		}
		if got := Leaves(inner(1, kind)); len(got) != 0 {
			t.Errorf("Leaves of a node of the kind %d without Kids = %#v", kind, got)
		}
	}
}

func TestLeaves(t *testing.T) { // P7.2
	want := []api.Token{
		{Kind: api.Lower, Text: "a", At: 0},
		{Kind: api.Symbol, Text: "+", At: 1},
		{Kind: api.Space, Text: " ", At: 2},
		{Kind: api.Number, Text: "1", At: 3},
	}
	if got := Leaves(example()); !slices.Equal(got, want) {
		t.Errorf("Leaves = %#v, want %#v", got, want)
	}
	want = []api.Token{
		{Kind: api.Space, Text: "", At: 0},
		{Kind: api.Keyword, Text: "fun", At: 0},
		{Kind: api.Bad, Text: "", At: 3},
		{Kind: api.Comment, Text: "", At: 3},
		{Kind: api.String, Text: "\"\u20ac\xff\"", At: 3},
		{Kind: api.Upper, Text: "", At: 9},
	}
	if got := Leaves(gaps()); !slices.Equal(got, want) {
		t.Errorf("Leaves = %#v, want %#v", got, want)
	}
}

func TestPath(t *testing.T) { // P7.3
	for _, c := range []struct {
		tree   api.Node
		offset int
		path   []int
		ok     bool
	}{
		{example(), 0, []int{0, 0}, true},
		{example(), 1, []int{1}, true},
		{example(), 2, []int{2, 0}, true},
		{example(), 3, []int{2, 1}, true},
		{example(), -1, nil, false},
		{example(), 4, nil, false},
		{example(), 5, nil, false},
		{example(), math.MinInt, nil, false},
		{example(), math.MaxInt, nil, false},
		{gaps(), 0, []int{2, 0}, true},
		{gaps(), 2, []int{2, 0}, true},
		{gaps(), 3, []int{4}, true},
		{gaps(), 5, []int{4}, true}, // inside a character
		{gaps(), 8, []int{4}, true},
		{gaps(), 9, nil, false},
		{leaf(1, api.Lower, "ab"), 0, nil, true},
		{leaf(1, api.Lower, "ab"), 1, nil, true},
		{leaf(1, api.Lower, "ab"), 2, nil, false},
		{leaf(1, api.Lower, "ab"), -1, nil, false},
		{leaf(1, api.Space, ""), 0, nil, false},
		{inner(1, api.NError), 0, nil, false},
		{inner(1, api.NError, leaf(2, api.Space, "")), 0, nil, false},
	} {
		if path, ok := Path(c.tree, c.offset); ok != c.ok || !slices.Equal(path, c.path) {
			t.Errorf("Path(%s, %d) = %v, %t, want %v, %t", show(c.tree), c.offset, path, ok, c.path, c.ok)
		}
	}
}

func TestGet(t *testing.T) { // P7.4
	for _, c := range []struct {
		tree   api.Node
		path   []int
		want   api.Node
		offset int
	}{
		{example(), nil, example(), 0},
		{example(), []int{}, example(), 0},
		{example(), []int{0}, inner(21, api.NName, leaf(32, api.Lower, "a")), 0},
		{example(), []int{0, 0}, leaf(32, api.Lower, "a"), 0},
		{example(), []int{1}, leaf(43, api.Symbol, "+"), 1},
		{example(), []int{2, 0}, leaf(65, api.Space, " "), 2},
		{example(), []int{2, 1}, leaf(76, api.Number, "1"), 3},
		{gaps(), []int{0}, leaf(1, api.Space, ""), 0},
		{gaps(), []int{1}, inner(2, api.NError), 0},
		{gaps(), []int{2, 1}, leaf(5, api.Bad, ""), 3},
		{gaps(), []int{2, 2}, inner(6, api.NError, inner(7, api.NHole)), 3},
		{gaps(), []int{2, 2, 0}, inner(7, api.NHole), 3},
		{gaps(), []int{5}, inner(10, api.NList, leaf(11, api.Upper, "")), 9},
		{gaps(), []int{5, 0}, leaf(11, api.Upper, ""), 9},
		{leaf(1, api.Lower, "a"), nil, leaf(1, api.Lower, "a"), 0},
		{inner(1, api.NError), nil, inner(1, api.NError), 0},
	} {
		got, offset, ok := Get(c.tree, c.path)
		if offset != c.offset || !ok {
			t.Errorf("Get(%s, %v) has the offset %d, %t, want %d", show(c.tree), c.path, offset, ok, c.offset)
		}
		checkTree(t, "Get", got, c.want)
	}
}

// wrongPaths are paths that lead to no node of the example.
func wrongPaths() [][]int {
	return [][]int{
		{-1}, {3}, {math.MinInt}, {math.MaxInt},
		{2, -1}, {2, 2}, {0, 1}, {0, math.MaxInt},
		{1, 0}, {1, -1}, {2, 1, 0}, {2, 0, -1}, // through a leaf
		{-1, 0}, {3, 0}, {3, 3}, {2, -1, 0}, {2, 2, 0}, {0, 0, 0, 0},
	}
}

func TestGetOfWrongPaths(t *testing.T) { // P7.4
	for _, path := range wrongPaths() {
		n, offset, ok := Get(example(), path)
		if offset != 0 || ok {
			t.Errorf("Get of %v has the offset %d, %t", path, offset, ok)
		}
		checkTree(t, "Get", n, api.Node{})
	}
	if _, _, ok := Get(leaf(1, api.Lower, "a"), []int{0}); ok {
		t.Error("Get of 0 in a leaf is true")
	}
	if _, _, ok := Get(inner(1, api.NError), []int{0}); ok {
		t.Error("Get of 0 in a node without Kids is true")
	}
}

func TestEqual(t *testing.T) { // P7.5
	a, b, c := leaf(1, api.Lower, "a"), leaf(2, api.Lower, "b"), leaf(3, api.Lower, "")
	for _, x := range []struct {
		a, b api.Node
		want bool
	}{
		{api.Node{}, api.Node{}, true},
		{a, a, true},
		{a, leaf(7, api.Lower, "a"), true},
		{a, b, false},
		{a, c, false},
		{a, leaf(1, api.Bad, "a"), false},
		{c, leaf(3, api.Space, ""), false},
		{inner(1, api.NError), inner(2, api.NError), true},
		{inner(1, api.NError), api.Node{Kind: api.NError, Kids: []api.Node{}}, true},
		{inner(1, api.NError), inner(1, api.NHole), false},
		{inner(1, api.NList, a, b), inner(4, api.NList, leaf(5, api.Lower, "a"), leaf(6, api.Lower, "b")), true},
		{inner(1, api.NList, a, b), inner(1, api.NList, b, a), false},
		{inner(1, api.NList, a, b), inner(1, api.NList, a), false},
		{inner(1, api.NList, a), inner(1, api.NList, a, b), false},
		{inner(1, api.NList, a), inner(1, api.NList, a, c), false},
		{inner(1, api.NList, a), inner(1, api.NComp, a), false},
		{inner(1, api.NList), inner(1, api.NList, c), false},
		{inner(1, api.NList, a, b), inner(1, api.NList, leaf(1, api.Lower, "ab")), false},
		{inner(1, api.NList, inner(4, api.NList, a), b), inner(1, api.NList, a, inner(4, api.NList, b)), false},
		{inner(1, api.NList, inner(4, api.NList, a, b)), inner(1, api.NList, a, b), false},
		{inner(1, api.NList, inner(4, api.NList, a, b)), inner(1, api.NList, inner(5, api.NList, a, b)), true},
		{inner(1, api.NList, inner(4, api.NList, a, b)), inner(1, api.NList, inner(4, api.NList, a, c)), false},
		{example(), gaps(), false},
		{example(), example(), true},
		{gaps(), gaps(), true},
	} {
		if got := Equal(x.a, x.b); got != x.want {
			t.Errorf("Equal(%s, %s) = %t", show(x.a), show(x.b), got)
		}
		if got := Equal(x.b, x.a); got != x.want {
			t.Errorf("Equal(%s, %s) = %t", show(x.b), show(x.a), got)
		}
	}
}

func TestNumber(t *testing.T) { // P7.6
	for _, from := range []int{0, 1, 7, -3, -100, 1 << 40, math.MaxInt - 20} {
		got, next := Number(example(), from)
		want := inner(from, api.NBinary,
			inner(from+1, api.NName, leaf(from+2, api.Lower, "a")),
			leaf(from+3, api.Symbol, "+"),
			inner(from+4, api.NLiteral, leaf(from+5, api.Space, " "), leaf(from+6, api.Number, "1")))
		checkTree(t, "Number", got, want)
		if next != from+7 {
			t.Errorf("the number after those from %d on is %d", from, next)
		}
	}
	for _, n := range []api.Node{leaf(9, api.Lower, "a"), inner(9, api.NError)} {
		got, next := Number(n, 4)
		n.ID = 4
		checkTree(t, "Number", got, n)
		if next != 5 {
			t.Errorf("the number after 4 is %d", next)
		}
	}
}

func TestNumberOfNodesThatAppearTwice(t *testing.T) { // P7.6: also where they are the same memory
	twice := inner(5, api.NName, leaf(6, api.Lower, "x"))
	got, next := Number(inner(1, api.NList, twice, twice, inner(2, api.NParen, twice)), 0)
	want := inner(0, api.NList,
		inner(1, api.NName, leaf(2, api.Lower, "x")),
		inner(3, api.NName, leaf(4, api.Lower, "x")),
		inner(5, api.NParen, inner(6, api.NName, leaf(7, api.Lower, "x"))))
	checkTree(t, "Number", got, want)
	if next != 8 {
		t.Errorf("the next number is %d, want 8", next)
	}
}

func TestIDs(t *testing.T) { // P7.6
	for _, c := range []struct {
		tree api.Node
		want []int
	}{
		{api.Node{}, []int{0}},
		{leaf(-5, api.Lower, "a"), []int{-5}},
		{inner(3, api.NError), []int{3}},
		{example(), []int{10, 21, 32, 43, 54, 65, 76}},
		{gaps(), []int{0, 1, 2, 3, 4, 5, 6, 7, 8, 9, 10, 11}},
		{inner(2, api.NList, leaf(2, api.Lower, "a"), leaf(1, api.Lower, "b"), leaf(2, api.Lower, "c")), []int{2, 2, 1, 2}},
	} {
		if got := IDs(c.tree); !slices.Equal(got, c.want) {
			t.Errorf("IDs(%s) = %v, want %v", show(c.tree), got, c.want)
		}
	}
}

func TestReplace(t *testing.T) { // P7.7
	by := inner(-1, api.NParen, leaf(32, api.Symbol, "("), inner(-2, api.NHole))
	a := inner(21, api.NName, leaf(32, api.Lower, "a"))
	plus := leaf(43, api.Symbol, "+")
	one := inner(54, api.NLiteral, leaf(65, api.Space, " "), leaf(76, api.Number, "1"))
	for _, c := range []struct {
		path []int
		by   api.Node
		want api.Node
	}{
		{nil, by, by},
		{[]int{}, leaf(1, api.Lower, "z"), leaf(1, api.Lower, "z")},
		{[]int{0}, by, inner(10, api.NBinary, by, plus, one)},
		{[]int{0, 0}, by, inner(10, api.NBinary, inner(21, api.NName, by), plus, one)},
		{[]int{1}, by, inner(10, api.NBinary, a, by, one)},
		{[]int{1}, api.Node{}, inner(10, api.NBinary, a, api.Node{}, one)},
		{[]int{2}, by, inner(10, api.NBinary, a, plus, by)},
		{[]int{2, 0}, by, inner(10, api.NBinary, a, plus, inner(54, api.NLiteral, by, leaf(76, api.Number, "1")))},
		{[]int{2, 1}, by, inner(10, api.NBinary, a, plus, inner(54, api.NLiteral, leaf(65, api.Space, " "), by))},
		{[]int{2}, example(), inner(10, api.NBinary, a, plus, example())},
	} {
		got, ok := Replace(example(), c.path, c.by)
		if !ok {
			t.Errorf("Replace at %v is false", c.path)
		}
		checkTree(t, "Replace", got, c.want)
	}
	for _, path := range wrongPaths() {
		got, ok := Replace(example(), path, by)
		if ok {
			t.Errorf("Replace at %v is true", path)
		}
		checkTree(t, "Replace", got, api.Node{})
	}
}

func TestReplaceByAPartOfTheTree(t *testing.T) { // P7.7
	n := example()
	got, ok := Replace(n, []int{2, 1}, n)
	one := inner(54, api.NLiteral, leaf(65, api.Space, " "), example())
	checkTree(t, "Replace", got, inner(10, api.NBinary, inner(21, api.NName, leaf(32, api.Lower, "a")), leaf(43, api.Symbol, "+"), one))
	checkTree(t, "the argument", n, example())
	got, ok2 := Replace(n, nil, n.Kids[2])
	checkTree(t, "Replace", got, inner(54, api.NLiteral, leaf(65, api.Space, " "), leaf(76, api.Number, "1")))
	if !ok || !ok2 {
		t.Errorf("Replace is %t and %t", ok, ok2)
	}
}

func TestReplaceWhereMemoryIsShared(t *testing.T) { // P7.7: only one of two nodes that are the same memory
	twice := inner(5, api.NName, leaf(6, api.Lower, "x"))
	got, _ := Replace(inner(1, api.NList, twice, twice), []int{1, 0}, leaf(7, api.Lower, "y"))
	checkTree(t, "Replace", got, inner(1, api.NList, twice, inner(5, api.NName, leaf(7, api.Lower, "y"))))
}

// roomy returns a tree of which all Kids have spare capacity, with a node in it.
func roomy(n api.Node) api.Node {
	kids := make([]api.Node, 0, len(n.Kids)+2)
	for _, k := range n.Kids {
		kids = append(kids, roomy(k))
	}
	n.Kids = append(kids, leaf(-7, api.Bad, "spare"))[:len(kids)]
	return n
}

// showAll is show with the spare capacities.
func showAll(n api.Node) string {
	n.Kids = n.Kids[:cap(n.Kids)]
	return strconv.Itoa(n.ID) + "=" + showParts(n, showAll)
}

// scribble changes all memory that a tree refers to, with its spare capacities.
func scribble(n api.Node) {
	all := n.Kids[:cap(n.Kids)]
	for i := range all {
		scribble(all[i])
		all[i] = leaf(-8, api.Bad, "scribble")
	}
}

func TestArgumentsAreKept(t *testing.T) { // R4
	n, by := roomy(gaps()), roomy(example())
	path := append(make([]int, 0, 4), 2, 2)
	before, byBefore := showAll(n), showAll(by)
	for _, call := range []struct {
		name string
		run  func()
	}{
		{"Text", func() { Text(n) }},
		{"Width", func() { Width(n) }},
		{"Count", func() { Count(n) }},
		{"Depth", func() { Depth(n) }},
		{"Leaves", func() { clear(Leaves(n)) }},
		{"Path", func() { found, _ := Path(n, 4); clear(found) }},
		{"Get", func() { got, _, _ := Get(n, path); scribble(got) }},
		{"Get of the root", func() { got, _, _ := Get(n, nil); scribble(got) }},
		{"Equal", func() { Equal(n, by) }},
		{"Number", func() { got, _ := Number(n, 100); scribble(got) }},
		{"IDs", func() { clear(IDs(n)) }},
		{"Replace", func() { got, _ := Replace(n, path, by); scribble(got) }},
		{"Replace of the root", func() { got, _ := Replace(n, nil, by); scribble(got) }},
		{"Replace by a part", func() { got, _ := Replace(n, path, n); scribble(got) }},
	} {
		call.run()
		if showAll(n) != before || showAll(by) != byBefore {
			t.Fatalf("%s changes its argument: %s and %s", call.name, showAll(n), showAll(by))
		}
		if !slices.Equal(path[:cap(path)], []int{2, 2, 0, 0}) {
			t.Fatalf("%s changes its path: %v", call.name, path[:cap(path)])
		}
	}
}

func TestResultsAreNew(t *testing.T) { // R4
	n, by := roomy(gaps()), roomy(example())
	part, _, _ := Get(n, []int{2})
	whole, _, _ := Get(n, nil)
	numbered, _ := Number(n, 0)
	replaced, _ := Replace(n, []int{2}, by)
	root, _ := Replace(n, nil, by)
	scribble(n)
	scribble(by)
	checkTree(t, "Get", part, gaps().Kids[2])
	checkTree(t, "Get", whole, gaps())
	checkTree(t, "Number", numbered, gaps())
	checkTree(t, "Replace", root, example())
	want := gaps()
	want.Kids[2] = example()
	checkTree(t, "Replace", replaced, want)
}

func TestPartsOfAResultAreApart(t *testing.T) { // R4
	twice := inner(5, api.NName, leaf(6, api.Lower, "x"))
	n := inner(1, api.NList, twice, twice)
	got, _, _ := Get(n, nil)
	numbered, _ := Number(n, 0)
	replaced, _ := Replace(inner(1, api.NList, twice, leaf(2, api.Lower, "y")), []int{1}, twice)
	for _, r := range []api.Node{got, numbered, replaced} {
		want := show(r.Kids[1])
		scribble(r.Kids[0])
		if show(r.Kids[1]) != want {
			t.Errorf("a change of one Kid changes the other one to %s", show(r.Kids[1]))
		}
	}
}

func TestPathsAreApart(t *testing.T) { // R4
	n := example()
	first, _ := Path(n, 2)
	second, _ := Path(n, 3)
	if !slices.Equal(first, []int{2, 0}) || !slices.Equal(second, []int{2, 1}) {
		t.Errorf("the paths are %v and %v", first, second)
	}
	clear(second)
	if third, _ := Path(n, 3); !slices.Equal(third, []int{2, 1}) {
		t.Errorf("the path is %v after a change of an earlier one", third)
	}
}

// nested returns a tree of that depth with a leaf on each side of each node but the
// last one.
func nested(depth int) api.Node {
	n := leaf(0, api.Lower, "mid")
	for range depth - 1 {
		n = inner(0, api.NParen, leaf(0, api.Symbol, "("), n, leaf(0, api.Symbol, ")"))
	}
	return n
}

func TestDeepTrees(t *testing.T) { // R1: 2^16 levels, in a time that grows as the tree does
	const depth = 1 << 16
	n := nested(depth)
	text := strings.Repeat("(", depth-1) + "mid" + strings.Repeat(")", depth-1)
	if Text(n) != text || Width(n) != len(text) || Count(n) != 3*depth-2 || Depth(n) != depth {
		t.Errorf("a text of %d bytes, the width %d, the count %d, the depth %d", len(Text(n)), Width(n), Count(n), Depth(n))
	}
	path, ok := Path(n, depth)
	if !ok || len(path) != depth-1 || slices.Min(path) != 1 || slices.Max(path) != 1 {
		t.Errorf("a path of %d indices, %t", len(path), ok)
	}
	got, offset, ok := Get(n, path)
	if got.Text != "mid" || offset != depth-1 || !ok {
		t.Errorf("Get = %+q at %d, %t", got.Text, offset, ok)
	}
	numbered, next := Number(n, 0)
	if next != 3*depth-2 || !Equal(n, numbered) || len(IDs(numbered)) != next || len(Leaves(n)) != 2*depth-1 {
		t.Errorf("the next number is %d", next)
	}
	replaced, ok := Replace(n, path, leaf(0, api.Lower, "end"))
	if Text(replaced) != strings.Replace(text, "mid", "end", 1) || Equal(n, replaced) || !ok {
		t.Error("the text after Replace is wrong")
	}
}

func TestWideTrees(t *testing.T) { // R1: in a time that grows as the tree does
	const width = 1 << 18
	n := inner(0, api.NModule)
	for range width {
		n.Kids = append(n.Kids, leaf(0, api.Lower, "ab"))
	}
	if len(Text(n)) != 2*width || Width(n) != 2*width || Count(n) != width+1 || Depth(n) != 2 {
		t.Errorf("the width is %d, the count %d and the depth %d", Width(n), Count(n), Depth(n))
	}
	path, ok := Path(n, 2*width-1)
	if !ok || !slices.Equal(path, []int{width - 1}) {
		t.Errorf("Path = %v, %t", path, ok)
	}
	if _, offset, ok := Get(n, path); offset != 2*width-2 || !ok {
		t.Errorf("Get has the offset %d, %t", offset, ok)
	}
	if l := Leaves(n); len(l) != width || l[width-1].At != 2*width-2 {
		t.Errorf("there are %d leaves", len(l))
	}
	numbered, next := Number(n, 0)
	if next != width+1 || !Equal(n, numbered) {
		t.Errorf("the next number is %d", next)
	}
	if replaced, ok := Replace(n, path, leaf(0, api.Lower, "x")); Width(replaced) != 2*width-1 || !ok {
		t.Errorf("the width after Replace is %d", Width(replaced))
	}
}
