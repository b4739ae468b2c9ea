package syntax

import (
	"math"
	"math/rand/v2"
	"slices"
	"testing"

	"schemalens/api"
	"schemalens/edit"
	"schemalens/lexer"
)

// A spot is a node of a tree with the path that leads to it and its offset.
type spot struct {
	path []int
	node api.Node
	at   int
}

// modelText follows the definition of the text.
func modelText(n api.Node) string {
	if slices.Contains([]int{0, 1, 2, 3, 4, 5, 6, 7, 8}, n.Kind) {
		return n.Text
	}
	s := ""
	for _, k := range n.Kids {
		s += modelText(k)
	}
	return s
}

// spots lists all nodes of a tree in preorder.
func spots(n api.Node) []spot {
	l := []spot{{nil, n, 0}}
	before := ""
	for i, k := range n.Kids {
		for _, s := range spots(k) {
			l = append(l, spot{append([]int{i}, s.path...), s.node, s.at + len(before)})
		}
		before += modelText(k)
	}
	return l
}

func modelLeaves(n api.Node) []api.Token {
	var l []api.Token
	for _, s := range spots(n) {
		if s.node.Kind >= 0 && s.node.Kind < 9 {
			l = append(l, api.Token{Kind: s.node.Kind, Text: s.node.Text, At: s.at})
		}
	}
	return l
}

func modelDepth(n api.Node) int {
	deepest := 0
	for _, k := range n.Kids {
		deepest = max(deepest, modelDepth(k))
	}
	return deepest + 1
}

func modelPath(n api.Node, offset int) ([]int, bool) {
	for _, s := range spots(n) {
		if s.node.Kind >= 0 && s.node.Kind < 9 && offset >= s.at && offset-s.at < len(s.node.Text) {
			return s.path, true
		}
	}
	return nil, false
}

func modelGet(n api.Node, path []int) (api.Node, int, bool) {
	for _, s := range spots(n) {
		if slices.Equal(s.path, path) {
			return s.node, s.at, true
		}
	}
	return api.Node{}, 0, false
}

// modelReplace puts a tree at a path that leads to a node.
func modelReplace(n api.Node, path []int, by api.Node) api.Node {
	if len(path) == 0 {
		return by
	}
	var kids []api.Node
	for i, k := range n.Kids {
		if i == path[0] {
			k = modelReplace(k, path[1:], by)
		}
		kids = append(kids, k)
	}
	n.Kids = kids
	return n
}

// ends are the nodes without Kids of smallTrees: leaves, with and without a text, and
// an inner node.
func ends() []api.Node {
	return []api.Node{leaf(1, api.Lower, "a"), leaf(2, api.Bad, "bc"), leaf(3, api.Space, ""), inner(4, api.NError)}
}

// smallTrees returns all trees of that many nodes that consist of the ends and of inner
// nodes of two kinds.
func smallTrees(nodes int) []api.Node {
	if nodes == 1 {
		return ends()
	}
	var l []api.Node
	for _, kids := range smallForests(nodes - 1) {
		l = append(l, inner(nodes, api.NList, kids...), inner(-nodes, 12, kids...))
	}
	return l
}

// smallForests returns all lists of smallTrees that have that many nodes together.
func smallForests(nodes int) [][]api.Node {
	if nodes == 0 {
		return [][]api.Node{nil}
	}
	var l [][]api.Node
	for first := 1; first <= nodes; first++ {
		for _, rest := range smallForests(nodes - first) {
			for _, n := range smallTrees(first) {
				l = append(l, append([]api.Node{n}, rest...))
			}
		}
	}
	return l
}

// forTrees calls check with all small trees and with larger ones that look random and
// are the same in each run.
func forTrees(check func(n api.Node)) {
	for nodes := range 4 {
		for _, n := range smallTrees(nodes + 1) {
			check(n)
		}
	}
	w := rand.New(rand.NewPCG(7, 1))
	for range 500 {
		check(randomTree(w, 5))
	}
}

// randomTree returns a tree of at most that depth; some of its IDs are the same.
func randomTree(w *rand.Rand, depth int) api.Node {
	texts := []string{"", "a", "let", " ", "\n", "\u20ac", "\xff", "\"x y\"", "=="}
	if depth == 1 || w.IntN(4) == 0 {
		return leaf(w.IntN(40), w.IntN(9), texts[w.IntN(len(texts))])
	}
	n := inner(w.IntN(40), 16+w.IntN(37))
	for range w.IntN(5) {
		n.Kids = append(n.Kids, randomTree(w, depth-1))
	}
	return n
}

func TestMeasuresOfManyTrees(t *testing.T) { // P7.1, P7.2, P7.8
	forTrees(func(n api.Node) {
		text := modelText(n)
		if Text(n) != text || Width(n) != len(text) || Count(n) != len(spots(n)) || Depth(n) != modelDepth(n) {
			t.Errorf("%s has the text %+q, the width %d, the count %d and the depth %d", show(n), Text(n), Width(n), Count(n), Depth(n))
		}
		if got, want := Leaves(n), modelLeaves(n); !slices.Equal(got, want) {
			t.Errorf("Leaves(%s) = %#v, want %#v", show(n), got, want)
		}
		joined := ""
		for _, x := range Leaves(n) {
			joined += x.Text
		}
		if joined != Text(n) {
			t.Errorf("the leaves of %s make up %+q", show(n), joined)
		}
	})
}

func TestPathsOfManyTrees(t *testing.T) { // P7.3, P7.8
	forTrees(func(n api.Node) {
		width := len(modelText(n))
		for offset := -2; offset < width+2; offset++ {
			path, ok := Path(n, offset)
			want, wantOK := modelPath(n, offset)
			if ok != wantOK || !slices.Equal(path, want) || ok != (0 <= offset && offset < width) {
				t.Errorf("Path(%s, %d) = %v, %t, want %v, %t", show(n), offset, path, ok, want, wantOK)
			}
			if !ok {
				continue
			}
			found, at, ok := Get(n, path)
			if !ok || found.Kind < 0 || found.Kind > 8 || found.Text[offset-at] != Text(n)[offset] {
				t.Errorf("the byte %d of %s is in %s at %d, %t", offset, show(n), show(found), at, ok)
			}
		}
	})
}

// forPaths calls check with paths that lead to nodes of a tree, and with some that lead
// just past them.
func forPaths(n api.Node, check func(path []int)) {
	for _, s := range spots(n) {
		check(s.path)
		for _, i := range []int{-1, 0, len(s.node.Kids), len(s.node.Kids) + 1, math.MaxInt, math.MinInt} {
			check(append(slices.Clone(s.path), i))
			check(append(slices.Clone(s.path), i, 0))
		}
	}
}

func TestGetOfManyTrees(t *testing.T) { // P7.4
	forTrees(func(n api.Node) {
		forPaths(n, func(path []int) {
			got, offset, ok := Get(n, path)
			want, wantOffset, wantOK := modelGet(n, path)
			if show(got) != show(want) || offset != wantOffset || ok != wantOK {
				t.Errorf("Get(%s, %v) = %s, %d, %t, want %s, %d, %t", show(n), path, show(got), offset, ok, show(want), wantOffset, wantOK)
			}
		})
	})
}

func TestEqualOfManyTrees(t *testing.T) { // P7.5
	var trees []api.Node
	var shapes []string
	for nodes := range 4 {
		for _, n := range smallTrees(nodes + 1) {
			trees = append(trees, n)
			shapes = append(shapes, shape(n))
		}
	}
	for i, a := range trees {
		for j, b := range trees {
			if got := Equal(a, b); got != (shapes[i] == shapes[j]) {
				t.Errorf("Equal(%s, %s) = %t", show(a), show(b), got)
			}
		}
	}
	forTrees(func(n api.Node) {
		for _, s := range spots(n) {
			for _, by := range ends() {
				changed := modelReplace(n, s.path, by)
				if got := Equal(n, changed); got != (shape(n) == shape(changed)) {
					t.Errorf("Equal(%s, %s) = %t", show(n), show(changed), got)
				}
			}
		}
	})
}

func TestNumberOfManyTrees(t *testing.T) { // P7.6, P7.11
	forTrees(func(n api.Node) {
		var ids []int
		for _, s := range spots(n) {
			ids = append(ids, s.node.ID)
		}
		if got := IDs(n); !slices.Equal(got, ids) {
			t.Errorf("IDs(%s) = %v, want %v", show(n), got, ids)
		}
		for _, from := range []int{0, 5, -2} {
			numbered, next := Number(n, from)
			if shape(numbered) != shape(n) || !Equal(numbered, n) || next != from+len(ids) {
				t.Errorf("Number(%s, %d) = %s, %d", show(n), from, show(numbered), next)
			}
			for i, s := range spots(numbered) {
				if s.node.ID != from+i || IDs(numbered)[i] != from+i {
					t.Errorf("Number(%s, %d) = %s", show(n), from, show(numbered))
				}
			}
		}
	})
}

func TestReplaceOfManyTrees(t *testing.T) { // P7.7, P7.11
	by := inner(90, api.NParen, leaf(91, api.Symbol, "("), inner(92, api.NError), leaf(93, api.Comment, "#\xff"))
	forTrees(func(n api.Node) {
		forPaths(n, func(path []int) {
			got, ok := Replace(n, path, by)
			_, _, wantOK := modelGet(n, path)
			if !wantOK {
				if ok || show(got) != show(api.Node{}) {
					t.Errorf("Replace(%s, %v) = %s, %t", show(n), path, show(got), ok)
				}
				return
			}
			want := modelReplace(n, path, by)
			if !ok || show(got) != show(want) {
				t.Errorf("Replace(%s, %v) = %s, %t, want %s", show(n), path, show(got), ok, show(want))
			}
			if back, _, ok := Get(got, path); !ok || show(back) != show(by) {
				t.Errorf("Get of Replace(%s, %v) = %s, %t", show(n), path, show(back), ok)
			}
		})
	})
}

func TestReplaceIsAnEdit(t *testing.T) { // P7.9
	forTrees(func(n api.Node) {
		for _, s := range spots(n) {
			for _, by := range append(ends(), example(), gaps()) {
				replaced, _ := Replace(n, s.path, by)
				e := api.Edit{From: s.at, To: s.at + Width(s.node), Text: Text(by)}
				want, err := edit.Apply(Text(n), []api.Edit{e})
				if Text(replaced) != want || err != api.OK {
					t.Errorf("the text of Replace(%s, %v) by %s is %+q, want %+q", show(n), s.path, show(by), Text(replaced), want)
				}
			}
		}
	})
}

// over returns a tree whose leaves are the tokens.
func over(w *rand.Rand, l []api.Token) api.Node {
	n := inner(0, 16+w.IntN(37))
	for len(l) > 0 {
		m := 1 + w.IntN(len(l))
		if m == 1 && w.IntN(3) > 0 {
			n.Kids = append(n.Kids, leaf(0, l[0].Kind, l[0].Text))
		} else {
			n.Kids = append(n.Kids, over(w, l[:m]))
		}
		if w.IntN(5) == 0 {
			n.Kids = append(n.Kids, inner(0, api.NError))
		}
		l = l[m:]
	}
	return n
}

func TestTreesOverTokens(t *testing.T) { // P7.10
	w := rand.New(rand.NewPCG(7, 2))
	for _, s := range []string{
		"", "x", " ", "#", "\"", "fun f(x) = x.a+1", "x<-1 !y#z", "# c\nlet x = \"\u20ac\" in [x | x <- t, x.a == 1]\n",
		"\"a\nb\"\"c", "$\xff\"x\"1_", "table t {k: Int} key (k)\r\n\ttype T = A(Int) | B", "  ",
	} {
		for range 50 {
			l := lexer.Tokens(s)
			n := over(w, l)
			if Text(n) != s || Width(n) != len(s) || !slices.Equal(Leaves(n), l) {
				t.Errorf("%s over %+q has the text %+q and the leaves %#v", show(n), s, Text(n), Leaves(n))
			}
		}
	}
}
