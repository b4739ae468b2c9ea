package reparse

import (
	"math/rand/v2"
	"slices"
	"strings"
	"testing"

	"schemalens/api"
	"schemalens/edit"
	"schemalens/lexer"
	"schemalens/parser"
	"schemalens/syntax"
)

// A spot is a node of a tree with its offset and its width.
type spot struct {
	node      *api.Node
	at, width int
}

// spots lists the nodes of a tree that begins at an offset, in preorder.
func spots(n *api.Node, at int) []spot {
	l := []spot{{n, at, len(syntax.Text(*n))}}
	for i := range n.Kids {
		kid := spots(&n.Kids[i], at)
		l = append(l, kid...)
		at += kid[0].width
	}
	return l
}

// A trace tells where the bytes of a text are after edits.
type trace struct {
	text  string // the new text
	image []int  // of each byte of the old text, -1 if it is replaced
	split []bool // for each byte, whether an edit inserts before it
}

// follow makes the edits of a valid list byte by byte.
func follow(s string, l []api.Edit) trace {
	r := trace{image: make([]int, len(s)), split: make([]bool, len(s)+1)}
	for i := 0; i <= len(s); {
		switch {
		case len(l) > 0 && l[0].From == i:
			r.split[i] = r.split[i] || l[0].To == i
			for ; i < l[0].To; i++ {
				r.image[i] = -1
			}
			r.text += l[0].Text
			l = l[1:]
		default:
			if i < len(s) {
				r.image[i] = len(r.text)
				r.text += s[i : i+1]
			}
			i++
		}
	}
	return r
}

// isTouched follows the definition.
func (r trace) isTouched(s spot) bool {
	for i := range s.width {
		if r.image[s.at+i] < 0 || i > 0 && r.split[s.at+i] {
			return true
		}
	}
	return false
}

// modelReparse compares each new node with each old one.
func modelReparse(old api.Node, l []api.Edit, next int) (api.Node, int) {
	r := follow(syntax.Text(old), l)
	var left []spot
	for _, o := range spots(&old, 0) {
		if o.width > 0 && !r.isTouched(o) {
			left = append(left, o)
		}
	}
	tree, _ := parser.Parse(r.text)
	numbered := map[*api.Node]bool{}
	for _, n := range spots(&tree, 0) {
		for _, o := range left {
			if n.at == r.image[o.at] && n.width == o.width && syntax.Equal(*n.node, *o.node) {
				below := spots(o.node, 0)
				for i, x := range spots(n.node, 0) {
					x.node.ID = below[i].node.ID
					numbered[x.node] = true
				}
			}
		}
		if !numbered[n.node] {
			n.node.ID = next
			next++
		}
	}
	return tree, next
}

// checkModel compares the results of Reparse with those of the model and of the parser,
// checks the promises that hold for each tree, and returns the new tree and next number.
func checkModel(t *testing.T, old api.Node, l []api.Edit, next int) (api.Node, int) {
	t.Helper()
	tree, after := checkParse(t, old, l, next)
	want, wantAfter := modelReparse(old, l, next)
	if !same(tree, want) || after != wantAfter {
		t.Errorf("Reparse(%s, %s, %d) = %s, %d, want %s, %d", show(old), showEdits(l), next, show(tree), after, show(want), wantAfter)
	}
	checkNumbers(t, old, tree, next, after)
	return tree, after
}

// checkNumbers checks that the IDs of a new tree are different, and those that are not
// new are the IDs of equal nodes of the old one.
func checkNumbers(t *testing.T, old, tree api.Node, next, after int) { // P9.4 to P9.6
	t.Helper()
	byID := map[int]api.Node{}
	for _, o := range nodes(old) {
		byID[o.ID] = o
	}
	seen := map[int]bool{}
	kept := 0
	for _, n := range nodes(tree) {
		if n.ID < 0 || n.ID >= after || seen[n.ID] {
			t.Errorf("the ID of %s is not below %d, or another one's too", show(n), after)
		}
		seen[n.ID] = true
		o, ok := byID[n.ID]
		if ok {
			kept++
		}
		if ok && !syntax.Equal(n, o) || !ok && n.ID < next {
			t.Errorf("%s has the ID of %s", show(n), show(o))
		}
	}
	if got := Kept(old, tree); got != kept || after != next+syntax.Count(tree)-kept {
		t.Errorf("Kept(%s, %s) = %d, want %d; the next number is %d after %d", show(old), show(tree), got, kept, after, next)
	}
}

// allEdits returns all edits of a text of that length by one of the texts.
func allEdits(length int, texts []string) []api.Edit {
	var l []api.Edit
	for from := range length + 1 {
		for to := from; to <= length; to++ {
			for _, text := range texts {
				l = append(l, api.Edit{From: from, To: to, Text: text})
			}
		}
	}
	return l
}

// shortTexts have tokens and nodes of many kinds next to one another.
func shortTexts() []string {
	return []string{
		"", "x", " ", "#", "x y", " x#", "x\n$", "fun f()=", "fun f()=a+b", "fun f()=-a.b", "fun f()=[a,]", "fun f(x)=(x", "fun f()={a=1}",
		"type T=A|B", "fun f()=1 fun", "#c\nfun f()=1", "fun f()=\"s\" ", "fun f()=not g(a)", "table t{}key(a)",
	}
}

func TestSingleEdits(t *testing.T) { // P9.1 to P9.6
	t.Parallel()
	texts := []string{"", "x", " ", "1", "+", "(", "\"", "#", "\n", "=", ",", " fun ", "f(", "in"}
	for _, s := range shortTexts() {
		old, next := parsed(s)
		for _, e := range allEdits(len(s), texts) {
			checkModel(t, old, []api.Edit{e}, next+3)
		}
	}
}

func TestPairsOfEdits(t *testing.T) { // P9.1 to P9.6
	t.Parallel()
	for _, s := range []string{"", "x", "x y", "a+ ", "f$\n", "fun f"} {
		old, next := parsed(s)
		all := allEdits(len(s), []string{"", "x", " ", "fun "})
		for _, a := range all {
			for _, b := range all {
				if b.From >= a.To {
					checkModel(t, old, []api.Edit{a, b}, next)
				}
			}
		}
	}
}

// smallTrees returns all trees of that many nodes that consist of some leaves and some
// inner nodes.
func smallTrees(count int) []api.Node {
	if count == 1 {
		return []api.Node{leaf(0, api.Lower, "a"), leaf(0, api.Space, " "), leaf(0, api.Upper, "a"), leaf(0, api.Lower, ""), inner(0, api.NError)}
	}
	var l []api.Node
	for _, kids := range smallForests(count - 1) {
		l = append(l, inner(0, api.NModule, kids...), inner(0, api.NError, kids...))
	}
	return l
}

// smallForests returns all lists of smallTrees that have that many nodes together.
func smallForests(count int) [][]api.Node {
	if count == 0 {
		return [][]api.Node{nil}
	}
	var l [][]api.Node
	for first := 1; first <= count; first++ {
		for _, rest := range smallForests(count - first) {
			for _, n := range smallTrees(first) {
				l = append(l, append([]api.Node{n}, rest...))
			}
		}
	}
	return l
}

func TestSmallTrees(t *testing.T) { // P9.1 to P9.6
	t.Parallel()
	for count := 1; count <= 4; count++ {
		for i, n := range smallTrees(count) {
			old, next := syntax.Number(n, i%3)
			checkModel(t, old, nil, next)
			for _, e := range allEdits(syntax.Width(old), []string{"", " ", "a"}) {
				checkModel(t, old, []api.Edit{e}, next)
			}
		}
	}
}

// samples are longer texts, with each production of the grammar and with errors.
func samples() []string {
	return []string{
		"type T = A | B([{a: Int, b: {}}])\n# text\ntype U = C(Int) | D",
		"table t {a: Int, b: [Text]} key (a, b) ref a to u ref b to v check a < 1 + 2 table u {a: Int} key (a)",
		"fun f(x, y: Int, z: [T] = 1): Bool = not x.a == y + 2 fun g() = f(1, 2) and not true or x.y.z <= 3",
		"fun f() = let x = g(1) in if x then m.f(a, b) else C(y)\n\nfun g(a) = a # end",
		"fun f() = match x {A -> 1, B(y) -> {a = 1, b = ?}} fun g() = {} fun h() = [[], [{}]]",
		"fun f() = [(x) | x <- t, y, z <- [1, \"s\"]] ++ [] * 2 or true and {x with a = 1, b = 2}",
		"proc p(x = {a = 1}) = insert t a; delete t as x where a; update t as y where b set c",
		"fun f( = 1 fun g() = (2 + fun h) = [a b, c table $ {a} key",
		"x y fun f() = \xe2\x82\xac \"\xe2\x82\xac\" # \xf0\x9f\x98\x80\n $$ type = | fun fun ((((",
		"fun f() = " + strings.Repeat("(", 38) + "a + [b" + strings.Repeat(")", 38) + " fun g() = 1",
		"fun f() = a + a + a + a * a * a - a fun f() = a + a + a fun f() = a + a # fun f() = a",
	}
}

// A writer makes edits and trees that look random and are the same in each run.
type writer struct{ *rand.Rand }

func newWriter(seed uint64) writer {
	return writer{rand.New(rand.NewPCG(9, seed))}
}

// offset returns an offset of a text, more often than not one at which a token begins.
func (w writer) offset(s string) int {
	l := lexer.Tokens(s)
	if len(l) > 0 && w.IntN(4) > 0 {
		return l[w.IntN(len(l))].At
	}
	return w.IntN(len(s) + 1)
}

// text returns the text of an edit of s: nothing, a word, or a part of s itself.
func (w writer) text(s string) string {
	words := []string{" ", "x", "1", "+", "a + ", "(", ")", "[", "]", "{", "}", ",", "=", ".", " fun ", " fun f() = ", "#", "\n", "\"", "$", "T", " | ", "not ", " let x = "}
	switch w.IntN(6) {
	case 0, 1:
		return ""
	case 2:
		a, b := w.offset(s), w.offset(s)
		return s[min(a, b):min(max(a, b), min(a, b)+20)]
	}
	return words[w.IntN(len(words))]
}

// edits returns a valid list of at most that many edits; most of them are short.
func (w writer) edits(s string, most int) []api.Edit {
	var ends []int
	for range w.IntN(most + 1) {
		from := w.offset(s)
		to := from
		if w.IntN(3) > 0 {
			to = min(from+w.IntN(4), len(s))
		}
		ends = append(ends, from, to)
	}
	slices.Sort(ends)
	var l []api.Edit
	for pair := range slices.Chunk(ends, 2) {
		e := api.Edit{From: pair[0], To: pair[1], Text: w.text(s)}
		if w.IntN(10) == 0 {
			e.Text = s[e.From:e.To]
		}
		l = append(l, e)
	}
	return l
}

// shuffled returns a tree with other numbers below next.
func (w writer) shuffled(n api.Node, next int) api.Node {
	ids := w.Perm(next)
	numbered, _ := syntax.Number(n, 0)
	var give func(n *api.Node)
	give = func(n *api.Node) {
		n.ID = ids[n.ID]
		for i := range n.Kids {
			give(&n.Kids[i])
		}
	}
	give(&numbered)
	return numbered
}

// forWalks calls check with trees that come from one another by edits, and the edits.
func forWalks(t *testing.T, seed uint64, walks, steps int, check func(w writer, old api.Node, l []api.Edit, next int)) {
	t.Helper()
	for i, s := range samples() {
		for j := range walks {
			w := newWriter(seed + uint64(1000*i+j))
			old, next := parsed(s)
			for range steps {
				l := w.edits(syntax.Text(old), 4)
				check(w, old, l, next)
				old, _, next, _ = Reparse(old, l, next)
				if len(syntax.Text(old)) > 400 {
					break
				}
			}
		}
	}
}

func TestWalks(t *testing.T) { // P9.1 to P9.6
	t.Parallel()
	forWalks(t, 1, 6, 30, func(w writer, old api.Node, l []api.Edit, next int) {
		checkModel(t, old, l, next)
		checkModel(t, w.shuffled(old, next), l, next)
	})
}

func TestManyEdits(t *testing.T) { // P9.1 to P9.6
	t.Parallel()
	for i, s := range samples() {
		for j := range 20 {
			w := newWriter(uint64(20000 + 1000*i + j))
			old, next := parsed(s)
			checkModel(t, old, w.edits(s, api.MaxEdits), next)
		}
	}
}

// spoilTree returns a tree of which a node has been changed: its kind, its text, what is
// around it, or nodes without bytes beside or below it.
func (w writer) spoilTree(n api.Node) api.Node {
	if len(n.Kids) > 0 && w.IntN(5) > 0 {
		i := w.IntN(len(n.Kids))
		n.Kids = slices.Clone(n.Kids)
		n.Kids[i] = w.spoilTree(n.Kids[i])
		return n
	}
	nothing := []api.Node{leaf(0, api.Space, ""), leaf(0, api.Lower, ""), inner(0, api.NError), inner(0, api.NError, inner(0, api.NError))}[w.IntN(4)]
	isLeaf := n.Kind <= api.Bad
	switch w.IntN(6) {
	case 0:
		return inner(0, []int{api.NModule, api.NError, n.Kind | 16}[w.IntN(3)], n)
	case 1:
		return inner(0, api.NError, n, nothing)
	case 2:
		if isLeaf {
			return leaf(0, w.IntN(9), n.Text)
		}
		return inner(0, api.NModule+w.IntN(37), n.Kids...)
	case 3:
		if isLeaf {
			i := w.IntN(len(n.Text) + 1)
			return inner(0, api.NError, leaf(0, n.Kind, n.Text[:i]), leaf(0, n.Kind, n.Text[i:]))
		}
		return inner(0, n.Kind, slices.Insert(slices.Clone(n.Kids), w.IntN(len(n.Kids)+1), nothing)...)
	case 4:
		if isLeaf {
			return leaf(0, n.Kind, n.Text+" x")
		}
		return inner(0, n.Kind, slices.DeleteFunc(slices.Clone(n.Kids), func(k api.Node) bool { return len(syntax.Text(k)) == 0 })...)
	}
	return n
}

func TestSpoiltTrees(t *testing.T) { // P9.1 to P9.6
	t.Parallel()
	for i, s := range append(samples(), shortTexts()...) {
		for j := range 50 {
			w := newWriter(uint64(50000 + 1000*i + j))
			old, _ := parser.Parse(s)
			for range 1 + w.IntN(3) {
				old = w.spoilTree(old)
			}
			next := syntax.Count(old) + w.IntN(3)
			old = w.shuffled(old, next)
			checkModel(t, old, nil, next)
			checkModel(t, old, w.edits(syntax.Text(old), 3), next)
		}
	}
}

func TestWithoutEdits(t *testing.T) { // P9.6
	t.Parallel()
	forWalks(t, 2, 2, 30, func(w writer, old api.Node, _ []api.Edit, next int) {
		s := syntax.Text(old)
		if s == "" {
			return
		}
		// Insertions at the ends of a text touch nothing.
		for _, l := range [][]api.Edit{nil, {}, {{From: 0, To: 0}}, {{From: len(s), To: len(s)}}, {{From: 0, To: 0}, {From: len(s), To: len(s)}}} {
			tree, _, after, err := Reparse(old, l, next)
			if err != api.OK || !same(tree, old) || after != next {
				t.Errorf("Reparse(%s, %s, %d) = %s, %d", show(old), showEdits(l), next, show(tree), after)
			}
		}
	})
}

func TestDeclarationsKeepTheirIDs(t *testing.T) { // P9.7
	t.Parallel()
	kept, lost := 0, 0
	forWalks(t, 3, 6, 30, func(w writer, old api.Node, l []api.Edit, next int) {
		r := follow(syntax.Text(old), l)
		tree, _, _, _ := Reparse(old, l, next)
		for _, o := range declarations(old) {
			if r.isTouched(o) {
				continue
			}
			i := slices.IndexFunc(declarations(tree), func(n spot) bool {
				return n.at == r.image[o.at] && syntax.Equal(*n.node, *o.node)
			})
			switch {
			case i < 0:
				lost++
			case same(*declarations(tree)[i].node, *o.node):
				kept++
			default:
				t.Errorf("after %s, %s became %s", showEdits(l), show(*o.node), show(tree))
			}
		}
	})
	if kept < 1000 || lost < 100 {
		t.Errorf("%d declarations were kept and %d were not", kept, lost)
	}
}

// declarations returns the declarations of a module.
func declarations(module api.Node) []spot {
	var l []spot
	at := 0
	for i := range module.Kids {
		s := spots(&module.Kids[i], at)[0]
		at += s.width
		if slices.Contains([]int{api.NType, api.NTable, api.NFun, api.NProc}, s.node.Kind) {
			l = append(l, s)
		}
	}
	return l
}

// TestOtherDeclarationsKeepTheirIDs edits one declaration of many.
func TestOtherDeclarationsKeepTheirIDs(t *testing.T) { // P9.7
	t.Parallel()
	decls := []string{"fun f() = 1", "\n# about g\nfun g(x) = x + 2", " type T = A | B(Int)", "\n\ntable t {a: Int} key (a)", " proc p() = insert t {a = 3}", "\nfun h( = 4"}
	s := strings.Join(decls, "")
	old, next := parsed(s)
	at := 0
	for edited, decl := range decls {
		i := at + strings.LastIndexAny(decl, "1234ta")
		at += len(decl)
		tree, _, after, err := Reparse(old, []api.Edit{{From: i, To: i + 1, Text: "xyz"}}, next)
		if err != api.OK || len(tree.Kids) != len(decls) || tree.ID != next {
			t.Fatalf("after an edit of %q, the tree is %s", decl, show(tree))
		}
		for j, n := range tree.Kids {
			if got := same(n, old.Kids[j]); got != (j != edited) {
				t.Errorf("after an edit of %q, %q became %s", decl, decls[j], show(n))
			}
		}
		if fresh := syntax.Count(tree) - Kept(old, tree); fresh > 8 || after != next+fresh {
			t.Errorf("after an edit of %q, %d nodes are new", decl, fresh)
		}
	}
}

func TestInverseEdits(t *testing.T) { // P9.8
	t.Parallel()
	both := 0
	forWalks(t, 4, 6, 30, func(w writer, old api.Node, l []api.Edit, next int) {
		inverse, err := edit.Invert(syntax.Text(old), l)
		if err != api.OK {
			t.Fatalf("the edits %s are not valid", showEdits(l))
		}
		tree, _, after, _ := Reparse(old, l, next)
		back, _, _, err := Reparse(tree, inverse, after)
		if err != api.OK || !syntax.Equal(back, old) {
			t.Fatalf("%s comes back from %s as %s", show(old), showEdits(l), show(back))
		}
		before := syntax.IDs(old)
		for i, id := range syntax.IDs(back) {
			if slices.Contains(before, id) {
				both++
				if id != before[i] {
					t.Errorf("%s comes back from %s as %s", show(old), showEdits(l), show(back))
				}
			}
		}
	})
	if both < 1000 {
		t.Errorf("only %d nodes were kept both times", both)
	}
}
