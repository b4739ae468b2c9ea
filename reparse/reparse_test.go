package reparse

import (
	"math"
	"slices"
	"strconv"
	"strings"
	"testing"

	"schemalens/api"
	"schemalens/parser"
	"schemalens/syntax"
)

func leaf(id, kind int, text string) api.Node {
	return api.Node{ID: id, Kind: kind, Text: text}
}

func inner(id, kind int, kids ...api.Node) api.Node {
	return api.Node{ID: id, Kind: kind, Kids: kids}
}

// name returns the name of the kind of an inner node without its N, or the text of a
// leaf, quoted if it is a filler.
func name(n api.Node) string {
	switch n.Kind {
	case api.Space, api.Comment, api.Bad:
		return "~" + strconv.QuoteToASCII(n.Text)
	}
	if n.Kind <= api.Bad {
		return n.Text
	}
	names := strings.Fields("Module Type Ctor Table Field Key Ref Check Fun Param Proc Insert Delete Update TypeName TypeList " +
		"TypeRecord Let If Match Arm Binary Unary Dot Call Make Record With Pair List Comp Gen Paren Literal Name Hole Error")
	return names[n.Kind-api.NModule]
}

// show writes a tree down with its IDs.
func show(n api.Node) string {
	s := strconv.Itoa(n.ID) + "=" + name(n)
	if n.Kind <= api.Bad {
		return s
	}
	var kids []string
	for _, k := range n.Kids {
		kids = append(kids, show(k))
	}
	return s + "(" + strings.Join(kids, " ") + ")"
}

func showProblems(l []api.Problem) string {
	var all []string
	for _, p := range l {
		s := strconv.Itoa(p.Code) + ":" + strconv.Itoa(p.At) + "-" + strconv.Itoa(p.End)
		if p.Doc != "" || len(p.Names) != 0 {
			s += " with a document or names"
		}
		all = append(all, s)
	}
	return strings.Join(all, " ")
}

func showEdits(l []api.Edit) string {
	var all []string
	for _, e := range l {
		all = append(all, strconv.Itoa(e.From)+"-"+strconv.Itoa(e.To)+" "+strconv.QuoteToASCII(e.Text))
	}
	return "{" + strings.Join(all, ", ") + "}"
}

// same reports whether two trees are equal, with their IDs.
func same(a, b api.Node) bool {
	return a.ID == b.ID && a.Kind == b.Kind && a.Text == b.Text && slices.EqualFunc(a.Kids, b.Kids, same)
}

// nodes lists the nodes of a tree in preorder.
func nodes(n api.Node) []api.Node {
	l := []api.Node{n}
	for _, k := range n.Kids {
		l = append(l, nodes(k)...)
	}
	return l
}

// unmark returns the text of a marked one, and the edits that the marks stand for: where
// it has ⟨a→b⟩, the text has a, which an edit replaces by b.
func unmark(marked string) (string, []api.Edit) {
	s := ""
	var l []api.Edit
	for {
		before, rest, found := strings.Cut(marked, "⟨")
		s += before
		if !found {
			return s, l
		}
		a, rest, _ := strings.Cut(rest, "→")
		b, rest, _ := strings.Cut(rest, "⟩")
		l = append(l, api.Edit{From: len(s), To: len(s) + len(a), Text: b})
		s += a
		marked = rest
	}
}

// parsed returns the tree of a text, numbered from 0 on, and the next number.
func parsed(s string) (api.Node, int) {
	n, _ := parser.Parse(s)
	return syntax.Number(n, 0)
}

// edited returns the text of a tree after edits, with one edit after the other.
func edited(old api.Node, l []api.Edit) string {
	s := syntax.Text(old)
	for _, e := range slices.Backward(l) {
		s = s[:e.From] + e.Text + s[e.To:]
	}
	return s
}

// checkParse reparses a tree and compares all but the IDs with what the parser returns.
func checkParse(t *testing.T, old api.Node, l []api.Edit, next int) (api.Node, int) {
	t.Helper()
	tree, problems, after, err := Reparse(old, l, next)
	want, wantProblems := parser.Parse(edited(old, l))
	if err != api.OK || !syntax.Equal(tree, want) || showProblems(problems) != showProblems(wantProblems) {
		t.Errorf("Reparse(%s, %s, %d) = %s, %s, %d, want %s, %s",
			show(old), showEdits(l), next, show(tree), showProblems(problems), err, show(want), showProblems(wantProblems))
	}
	return tree, after
}

// checkIDs compares the IDs of a new tree in preorder and the next number.
func checkIDs(t *testing.T, old api.Node, l []api.Edit, next int, want []int, wantNext int) {
	t.Helper()
	tree, after := checkParse(t, old, l, next)
	if got := syntax.IDs(tree); !slices.Equal(got, want) || after != wantNext {
		t.Errorf("Reparse(%s, %s, %d) has the IDs %v and the next number %d, want %v and %d", show(old), showEdits(l), next, got, after, want, wantNext)
	}
}

func TestExample(t *testing.T) { // P9.1, P9.2
	old, next := parsed("fun a()=1\nfun b()=2")
	want := syntax.IDs(old)
	want[0], want[1], want[8], want[9] = next, next+1, next+2, next+3
	checkIDs(t, old, []api.Edit{{From: 8, To: 9, Text: "7"}}, next, want, next+4)
	tree, _ := checkParse(t, old, []api.Edit{{From: 8, To: 9, Text: "7"}}, next)
	if got := show(tree.Kids[0]); got != "21=Fun(2=fun 3=~\" \" 4=a 5=( 6=) 7== 22=Literal(23=7))" {
		t.Errorf("the first function is %s", got)
	}
}

// TestIDs edits the tree 0=Module(1=Error(2=x 3=~" " 4=x)).
func TestIDs(t *testing.T) { // P9.2
	for _, c := range []struct {
		marked string
		want   []int
		next   int
	}{
		{"x x", []int{0, 1, 2, 3, 4}, 5},
		{"⟨x →⟩x", []int{5, 6, 4}, 7},
		{"⟨x→⟩⟨ →⟩x", []int{5, 6, 4}, 7},
		{"x⟨ x→⟩", []int{5, 6, 2}, 7},
		{"x ⟨x→⟩", []int{5, 6, 2, 3}, 7}, // the blank is kept behind the error
		{"⟨x→⟩ x", []int{5, 6, 3, 4}, 7},
		{"x⟨ →⟩x", []int{5, 6, 7}, 8},
		{"⟨x x→⟩", []int{5}, 6},
		// Insertions before and behind parts.
		{"x ⟨→x ⟩x", []int{5, 6, 2, 3, 7, 8, 4}, 9},
		{"x⟨→ x⟩ x", []int{5, 6, 2, 7, 8, 3, 4}, 9},
		{"⟨→x ⟩x x", []int{5, 6, 7, 8, 2, 3, 4}, 9},
		{"x x⟨→ x⟩", []int{5, 6, 2, 3, 4, 7, 8}, 9},
		{"x x⟨→ ⟩", []int{5, 1, 2, 3, 4, 6}, 7},
		{"⟨→ ⟩x x", []int{5, 6, 7, 2, 3, 4}, 8},
		{"⟨→x⟩x x", []int{5, 6, 7, 3, 4}, 8},
		{"x⟨→x⟩ x", []int{5, 6, 7, 3, 4}, 8},
		// Edits that change no byte touch what they replace, and what they divide.
		{"⟨→⟩x x", []int{0, 1, 2, 3, 4}, 5},
		{"x x⟨→⟩", []int{0, 1, 2, 3, 4}, 5},
		{"x⟨→⟩ x", []int{5, 6, 2, 3, 4}, 7},
		{"x ⟨→⟩x", []int{5, 6, 2, 3, 4}, 7},
		{"⟨x→x⟩ x", []int{5, 6, 7, 3, 4}, 8},
		{"x⟨ → ⟩x", []int{5, 6, 2, 7, 4}, 8},
		{"x ⟨x→x⟩", []int{5, 6, 2, 3, 7}, 8},
		{"⟨x x→x x⟩", []int{5, 6, 7, 8, 9}, 10},
		// Neighbors.
		{"⟨→x⟩⟨→ ⟩x x", []int{5, 6, 7, 8, 2, 3, 4}, 9},
		{"x⟨→ ⟩⟨ →x ⟩x", []int{5, 6, 2, 7, 8, 9, 4}, 10},
		{"x⟨ →⟩⟨→ x ⟩x", []int{5, 6, 2, 7, 8, 9, 4}, 10},
		{"⟨x→⟩⟨→ ⟩ x", []int{5, 6, 7, 4}, 8},
		// The same text from another place is another node.
		{"⟨→x ⟩x⟨ x→⟩", []int{5, 6, 7, 8, 2}, 9},
		{"⟨x →⟩x⟨→ x⟩", []int{5, 6, 4, 7, 8}, 9},
		// Fillers.
		{"x ⟨x→#⟩", []int{5, 6, 2, 3, 7}, 8},
		{"⟨→#⟩x x", []int{5, 6}, 7},
		{"⟨→#\n⟩x x", []int{5, 6, 7, 8, 2, 3, 4}, 9},
	} {
		s, l := unmark(c.marked)
		old, next := parsed(s)
		checkIDs(t, old, l, next, c.want, c.next)
	}
}

func TestOldNumbersHaveNoOrder(t *testing.T) { // P9.2
	s, l := unmark("x ⟨→x⟩⟨→ ⟩x")
	old, _ := parsed(s)
	for i, id := range []int{7, 3, 0, 9, 4} {
		renumber(&old, i, 100+id)
	}
	for _, id := range []int{7, 3, 0, 9, 4} {
		renumber(&old, 100+id, id)
	}
	for _, next := range []int{10, 11, 500, math.MaxInt - 4} {
		checkIDs(t, old, l, next, []int{next, next + 1, 0, 9, next + 2, next + 3, 4}, next+4)
		checkIDs(t, old, nil, next, []int{7, 3, 0, 9, 4}, next)
	}
}

// renumber gives the node with an ID another one.
func renumber(n *api.Node, from, to int) {
	if n.ID == from {
		n.ID = to
	}
	for i := range n.Kids {
		renumber(&n.Kids[i], from, to)
	}
}

// checkFresh compares the names of the nodes that are numbered anew, in preorder; all
// others must be equal to the old nodes with their IDs.
func checkFresh(t *testing.T, marked, want string) {
	t.Helper()
	s, l := unmark(marked)
	old, next := parsed(s)
	tree, after := checkParse(t, old, l, next)
	byID := nodes(old)
	expected := next
	var fresh []string
	for _, n := range nodes(tree) {
		switch {
		case 0 <= n.ID && n.ID < next:
			if !syntax.Equal(n, byID[n.ID]) {
				t.Errorf("after %s, %s has the ID of %s", marked, show(n), show(byID[n.ID]))
			}
			continue
		case n.ID != expected:
			t.Errorf("after %s, the ID of %s is %d, want %d", marked, show(n), n.ID, expected)
		}
		expected++
		fresh = append(fresh, name(n))
	}
	if got := strings.Join(fresh, " "); got != want || after != expected {
		t.Errorf("after %s, the new nodes are %s and the next number %d, want %s and %d; the tree is %s", marked, got, after, want, expected, show(tree))
	}
}

func TestFreshNodes(t *testing.T) { // P9.2, P9.7
	for _, c := range []struct{ marked, fresh string }{
		{"", "Module"},
		{"⟨→⟩", "Module"},
		{"⟨→x⟩", "Module Error x"},
		{"⟨→ ⟩", `Module ~" "`},
		{"⟨x→⟩", "Module"},
		{"x", ""},
		{"#c\n", ""},
		{"fun f(x, y: Int = 1): Bool = not x.a == y", ""},
		{"table t {a: Int} key (a) ref a to t check a < 3 type T = A | B(Int) proc p() = delete t as x where true", ""},
		// Tokens of an expression.
		{"fun f()=⟨1→23⟩", "Module Fun Literal 23"},
		{"fun f()=1⟨→2⟩", "Module Fun Literal 12"},
		{"fun f()=⟨→2⟩1", "Module Fun Literal 21"},
		{"fun f()=a⟨→⟩b", "Module Fun Name ab"},
		{"fun f()⟨→⟩=a", "Module Fun"},
		{"fun f()=⟨1→1⟩", "Module Fun Literal 1"},
		{"fun f()=a⟨→b⟩", "Module Fun Name ab"},
		{"fun f()=a⟨→ ⟩b", `Module Fun Name a Error ~" " b`},
		// Nodes go on below others.
		{"fun f()=a⟨→+b⟩", "Module Fun Binary + Name b"},
		{"fun f()=a⟨+b→⟩", "Module Fun"},
		{"fun f()=a+b⟨→*c⟩", "Module Fun Binary Binary * Name c"},
		{"fun f()=a+b⟨→-c⟩", "Module Fun Binary - Name c"},
		{"fun f()=⟨→c-⟩a+b", "Module Fun Binary Binary Name c -"},
		{"fun f()=⟨→c+⟩a*b", "Module Fun Binary Name c +"},
		{"fun f()=⟨→(⟩a+b⟨→)⟩", "Module Fun Paren ( )"},
		{"fun f()=⟨[→(⟩a⟨]→)⟩", "Module Fun Paren ( )"},
		{"fun f()=⟨→g(⟩a.b⟨→,1)⟩", "Module Fun Call g ( , Literal 1 )"},
		{"fun f()=⟨a+→⟩b⟨→+a⟩", "Module Fun Binary + Name a"},
		// A node of another kind in the same place is another one.
		{"fun f()=⟨→{⟩x⟨→=1}⟩", "Module Fun Record { Pair = Literal 1 }"},
		{"⟨→fun f()=⟩x", `Module Fun fun ~" " f ( ) = Name`},
		{"fun f()=⟨[→{⟩x,y⟨]→}⟩", "Module Fun With { Error Error Pair Error Error }"},
		{"fun f()=[a,b⟨→|c⟩]", "Module Fun List Error Error | c"},
		{"fun f()=[a⟨,→|⟩b]", "Module Fun Comp | Gen"},
		{"type T=⟨→{a:⟩I⟨→nt⟩", "Module Type Error { a : Int"},
		{"fun f(x:⟨→[⟩T⟨→]⟩)=1", "Module Fun Param TypeList [ ]"},
		// Empty errors go with the node that they belong to.
		{"fun f()=", ""},
		{"⟨→fun g()=1⟩ fun f()=", "Module Fun fun ~\" \" g ( ) = Literal 1"},
		{"fun f()=⟨→ fun g()=⟩", `Module Fun ~" " fun ~" " g ( ) = Error`},
		{"fun ⟨g→h⟩()=", "Module Fun h Error"},
		{"fun f()=(⟨→ ⟩)", `Module Fun Paren Error ~" "`},
		{"fun f()=⟨→g⟩()", "Module Fun Call g"},
		{"fun f()=[a,],⟨b→c⟩", "Module Error c"},
		{"fun f()=[a,⟨→1⟩,]", "Module Fun List Literal 1 Error"},
		{"fun f()=⟨→1+⟩[a,]", "Module Fun Binary Literal 1 +"},
		// Declarations.
		{"fun f()=1⟨→ fun g()=2⟩", `Module Fun ~" " fun ~" " g ( ) = Literal 2`},
		{"⟨→fun g()=2⟩\nfun f()=1", `Module Fun fun ~" " g ( ) = Literal 2`},
		{"⟨→fun g()=2 ⟩fun f()=1", `Module Fun fun ~" " g ( ) = Literal 2 Fun ~" "`},
		{"⟨fun f()=1→⟩\nfun g()=2", "Module"},
		{"fun f()=1⟨\nfun g()=2→⟩", "Module"},
		{"fun f()=1⟨#c→⟩\nfun g()=2", "Module Fun"},
		{"fun f()=1#⟨c→d⟩\nfun g()=2", `Module Fun ~"#d"`},
		{"fun f()=1 #c⟨→\n⟩", `Module ~"\n"`},
		{"fun f()=1 fun g()=2 fun h()=⟨3→x⟩ fun i()=4", "Module Fun Name x"},
		{"fun f()=⟨1→22⟩ fun g()=2 fun h()=⟨3→⟩ fun i()=4", "Module Fun Literal 22 Fun Error"},
		{"type T=A⟨→|B⟩ fun f()=1", "Module Type | Ctor B"},
		{"fun f()=⟨let→1 fun⟩ x=1", `Module Fun Literal 1 Fun ~" " fun` + strings.Repeat(" Error", 5)},
		// What was not touched has other tokens, or other nodes.
		{"⟨→#⟩fun f()=1", `Module ~"#fun f()=1"`},
		{"⟨#→⟩fun f()=1", `Module Fun fun ~" " f ( ) = Literal 1`},
		{"fun f()=⟨→\"⟩a+b\"", `Module Fun Literal "a+b"`},
		{"⟨fun→⟩ f()=1 fun g()=2", "Module Error"},
		{"fun f()=⟨→" + strings.Repeat("(", 40) + "⟩(1)", "Module Fun" + strings.Repeat(" Paren (", 40) + strings.Repeat(" Error", 41)},
		// Bytes, and not characters, are replaced.
		{"fun f()=\"\xe2⟨\x82→\x83⟩\xac\"", "Module Fun Literal \"\xe2\x83\xac\""},
		{"fun f()=a\xe2⟨→\x82⟩\xac", `Module ~"\u20ac"`},
	} {
		checkFresh(t, c.marked, c.fresh)
	}
}

// openFun returns the tree of `fun f()=`, with another last Kid than the empty NError.
func openFun(last ...api.Node) api.Node {
	fun := inner(1, api.NFun,
		leaf(2, api.Keyword, "fun"), leaf(3, api.Space, " "), leaf(4, api.Lower, "f"), leaf(5, api.Symbol, "("),
		leaf(6, api.Symbol, ")"), leaf(7, api.Symbol, "="))
	fun.Kids = append(fun.Kids, last...)
	return inner(0, api.NModule, fun)
}

// TestTreesOfNoText reparses trees that are not those of their texts.
func TestTreesOfNoText(t *testing.T) { // P9.1, P9.2
	a := leaf(9, api.Lower, "a")
	changed := []int{20, 21, 2, 3, 4, 5, 6, 7, 22}
	for _, c := range []struct {
		old  api.Node
		want []int
		next int
	}{
		{a, []int{20, 21, 9}, 22},
		{leaf(9, api.Upper, "a"), []int{20, 21, 22}, 23},
		{leaf(9, api.Lower, "ab "), []int{20, 21, 22, 23}, 24},
		{leaf(9, api.Lower, "a b"), []int{20, 21, 22, 23, 24}, 25},
		{inner(3, api.NError, a), []int{20, 3, 9}, 21},
		{inner(3, api.NModule, a), []int{20, 21, 9}, 22},
		{inner(3, api.NName, inner(4, api.NError, a)), []int{20, 4, 9}, 21},
		{inner(3, api.NError, inner(4, api.NName, a)), []int{20, 21, 9}, 22},
		{inner(3, api.NModule, inner(4, api.NModule, inner(5, api.NError, a))), []int{4, 5, 9}, 20},
		{inner(3, api.NModule, inner(4, api.NModule, inner(5, api.NHole, a))), []int{20, 21, 9}, 22},
		{inner(3, api.NError, inner(4, api.NModule, inner(5, api.NError, a))), []int{4, 5, 9}, 20},
		{inner(3, api.NModule, inner(4, api.NError, a), inner(5, api.NError)), []int{20, 4, 9}, 21},
		{inner(3, api.NModule, inner(5, api.NError), inner(4, api.NError, a)), []int{20, 4, 9}, 21},
		{inner(3, api.NModule, inner(4, api.NError, a, leaf(5, api.Space, ""))), []int{20, 21, 9}, 22},
		{inner(3, api.NModule, inner(4, api.NError, leaf(5, api.Lower, ""), a)), []int{20, 21, 9}, 22},
		{inner(3, api.NModule, inner(4, api.NError, leaf(5, api.Lower, "b"), a)), []int{20, 21, 22}, 23},
		{inner(3, api.NModule, inner(4, api.NError, leaf(5, api.Lower, "b"), leaf(6, api.Space, " "), a)), []int{3, 4, 5, 6, 9}, 20},
		{inner(3, api.NModule, leaf(5, api.Lower, "b"), inner(4, api.NError, leaf(6, api.Space, " "), a)), []int{20, 21, 5, 6, 9}, 22},
		{inner(3, api.NModule), []int{20}, 21},
		{inner(3, api.NModule, inner(4, api.NError)), []int{20}, 21},
		{leaf(9, api.Lower, ""), []int{20}, 21},
		// Where there are no bytes, kinds and Kids are compared all the same.
		{openFun(inner(8, api.NError)), []int{0, 1, 2, 3, 4, 5, 6, 7, 8}, 20},
		{openFun(), changed, 23},
		{openFun(inner(8, api.NError), inner(9, api.NError)), changed, 23},
		{openFun(inner(8, api.NHole)), changed, 23},
		{openFun(leaf(8, api.Space, "")), changed, 23},
		{openFun(inner(8, api.NError, inner(9, api.NError))), changed, 23},
		{openFun(inner(8, api.NError, leaf(9, api.Space, ""))), changed, 23},
		{openFun(inner(8, api.NError, leaf(9, api.Bad, " "))), []int{20, 21, 2, 3, 4, 5, 6, 7, 22, 23}, 24},
		{openFun(inner(8, api.NName, inner(9, api.NError), leaf(10, api.Lower, "x"))), []int{20, 21, 2, 3, 4, 5, 6, 7, 22, 10}, 23},
		{openFun(inner(8, api.NName, leaf(10, api.Lower, "x")), inner(9, api.NError)), []int{20, 21, 2, 3, 4, 5, 6, 7, 8, 10}, 22},
	} {
		checkIDs(t, c.old, nil, 20, c.want, c.next)
	}
}

func TestErrors(t *testing.T) { // P9.3
	valid := []api.Edit{{From: 0, To: 1, Text: "y"}}
	many := slices.Repeat([]api.Edit{{}}, api.MaxEdits+1)
	for _, c := range []struct {
		old  api.Node
		l    []api.Edit
		next int
		want api.Errno
	}{
		{leaf(0, api.Lower, "x"), valid, 1, api.OK},
		{leaf(0, api.Lower, "x"), valid, 0, api.ErrArg},
		{leaf(0, api.Lower, "x"), valid, -1, api.ErrArg},
		{leaf(0, api.Lower, "x"), valid, math.MinInt, api.ErrArg},
		{leaf(-1, api.Lower, "x"), valid, 1, api.ErrArg},
		{leaf(-1, api.Lower, "x"), valid, 0, api.ErrArg},
		{leaf(math.MinInt, api.Lower, "x"), valid, 1, api.ErrArg},
		{leaf(1, api.Lower, "x"), valid, 1, api.ErrArg},
		{leaf(1, api.Lower, "x"), valid, 2, api.OK},
		{leaf(7, api.Lower, "x"), valid, 8, api.OK},
		{leaf(7, api.Lower, "x"), valid, 100, api.OK},
		{leaf(math.MaxInt, api.Lower, "x"), valid, math.MaxInt, api.ErrArg},
		{inner(0, api.NModule, leaf(1, api.Lower, "x")), valid, 2, api.OK},
		{inner(1, api.NModule, leaf(0, api.Lower, "x")), valid, 2, api.OK},
		{inner(0, api.NModule, leaf(1, api.Lower, "x")), valid, 1, api.ErrArg},
		{inner(0, api.NModule, leaf(0, api.Lower, "x")), valid, 2, api.ErrArg},
		{inner(1, api.NModule, leaf(1, api.Lower, "x")), valid, 2, api.ErrArg},
		{inner(0, api.NModule, leaf(-1, api.Lower, "x")), valid, 2, api.ErrArg},
		{inner(0, api.NModule, leaf(2, api.Lower, "x"), leaf(2, api.Lower, "")), valid, 3, api.ErrArg},
		{inner(0, api.NModule, leaf(2, api.Lower, "x"), inner(1, api.NError, inner(2, api.NError))), valid, 3, api.ErrArg},
		{inner(0, api.NModule, leaf(2, api.Lower, "x"), inner(1, api.NError, inner(3, api.NError))), valid, 4, api.OK},
		{inner(0, api.NModule, leaf(2, api.Lower, "x"), inner(1, api.NError, inner(4, api.NError))), valid, 4, api.ErrArg},
		// Edits.
		{leaf(0, api.Lower, "x"), []api.Edit{{From: 0, To: 2}}, 1, api.ErrRange},
		{leaf(0, api.Lower, "x"), []api.Edit{{From: -1, To: 1}}, 1, api.ErrRange},
		{leaf(0, api.Lower, "x"), []api.Edit{{From: 1, To: 0}}, 1, api.ErrRange},
		{leaf(0, api.Lower, "x"), []api.Edit{{From: 2, To: 2}}, 1, api.ErrRange},
		{leaf(0, api.Lower, "x"), []api.Edit{{From: 0, To: 1}, {From: 0, To: 1}}, 1, api.ErrArg},
		{leaf(0, api.Lower, "x"), []api.Edit{{From: 0, To: 1}, {From: 0, To: 1}, {From: 5, To: 5}}, 1, api.ErrArg},
		{leaf(0, api.Lower, "x"), []api.Edit{{From: 0, To: 1}, {From: 1, To: 2}, {From: 0, To: 0}}, 1, api.ErrRange},
		{leaf(0, api.Lower, "x"), many, 1, api.ErrLimit},
		{leaf(0, api.Lower, "x"), many[1:], 1, api.OK},
		{leaf(0, api.Lower, "x"), append(many[1:], api.Edit{From: -1}), 1, api.ErrLimit},
		{leaf(0, api.Lower, ""), []api.Edit{{From: 0, To: 1}}, 1, api.ErrRange},
		// The IDs are looked at before the edits.
		{leaf(1, api.Lower, "x"), many, 1, api.ErrArg},
		{leaf(-1, api.Lower, "x"), []api.Edit{{From: 0, To: 2}}, 1, api.ErrArg},
	} {
		tree, problems, next, err := Reparse(c.old, c.l, c.next)
		if err != c.want {
			t.Errorf("Reparse(%s, %s, %d) returns the error %d, want %d", show(c.old), showEdits(c.l), c.next, err, c.want)
		}
		if err != api.OK && (!same(tree, api.Node{}) || problems != nil || next != 0) {
			t.Errorf("Reparse(%s, %s, %d) returns %s, %s, %d, and the error %d", show(c.old), showEdits(c.l), c.next, show(tree), showProblems(problems), next, err)
		}
	}
}

func TestKept(t *testing.T) { // P9.4
	tree := inner(5, api.NModule, leaf(3, api.Lower, "x"), inner(-4, api.NError, inner(0, api.NError)), leaf(math.MaxInt, api.Space, " "))
	for _, c := range []struct {
		a, b api.Node
		want int
	}{
		{api.Node{}, api.Node{}, 1},
		{tree, tree, 5},
		{tree, api.Node{}, 1},
		{tree, leaf(1, api.Lower, "x"), 0},
		{tree, leaf(3, api.Symbol, "+"), 1}, // only IDs are compared
		{tree, leaf(math.MaxInt, api.Symbol, "+"), 1},
		{leaf(3, api.Symbol, "+"), tree, 1},
		{leaf(1, api.Symbol, "+"), tree, 0},
		{inner(3, api.NList, leaf(0, api.Lower, "y")), tree, 2},
		{tree, inner(3, api.NList, leaf(6, api.Lower, "y"), leaf(0, api.Lower, "y"), inner(7, api.NError, inner(5, api.NError))), 3},
		// Nodes of b are counted, and not IDs.
		{tree, inner(3, api.NList, leaf(3, api.Lower, "y"), leaf(1, api.Lower, "y"), leaf(3, api.Lower, "y")), 3},
		{inner(3, api.NList, leaf(3, api.Lower, "y"), leaf(3, api.Lower, "y")), tree, 1},
		{inner(3, api.NList, leaf(3, api.Lower, "y"), leaf(3, api.Lower, "y")), inner(3, api.NList, leaf(3, api.Lower, "y")), 2},
	} {
		if got := Kept(c.a, c.b); got != c.want {
			t.Errorf("Kept(%s, %s) = %d, want %d", show(c.a), show(c.b), got, c.want)
		}
	}
	old, next := parsed("fun a()=1\nfun b()=2")
	tree, _, _, _ = Reparse(old, []api.Edit{{From: 8, To: 9, Text: "7"}}, next)
	if got := Kept(old, tree); got != syntax.Count(tree)-4 {
		t.Errorf("%d nodes of %s are kept", got, show(tree))
	}
}

// spare returns a copy of a tree that has further Kids behind its Kids.
func spare(n api.Node) api.Node {
	kids := make([]api.Node, len(n.Kids), len(n.Kids)+2)
	for i, k := range n.Kids {
		kids[i] = spare(k)
	}
	for i := range 2 {
		kids[:cap(kids)][len(n.Kids)+i] = leaf(77, api.Upper, "Spare")
	}
	n.Kids = kids
	return n
}

// showAll writes down a tree with all that is behind its Kids.
func showAll(n api.Node) string {
	n.Kids = n.Kids[:cap(n.Kids)]
	s := strconv.Itoa(n.ID) + "=" + strconv.Itoa(n.Kind) + n.Text + "("
	for _, k := range n.Kids {
		s += showAll(k)
	}
	return s + ")"
}

// spoil changes all nodes of a tree, and all memory that belongs to their Kids.
func spoil(n *api.Node) {
	n.Kids = n.Kids[:cap(n.Kids)]
	for i := range n.Kids {
		spoil(&n.Kids[i])
	}
	*n = leaf(1, api.NHole, "spoilt")
}

// extend checks that no two nodes share memory: what is put behind the Kids of one is
// found nowhere else.
func extend(t *testing.T, root, n api.Node) {
	t.Helper()
	before := show(root)
	_ = append(n.Kids, leaf(1, api.Upper, "Extended"))
	if show(root) != before {
		t.Errorf("%s became %s", before, show(root))
	}
	for _, k := range n.Kids {
		extend(t, root, k)
	}
}

func TestArgumentsAndResultsAreIndependent(t *testing.T) { // P9.1, P9.2
	s, marked := unmark("fun f(x)=⟨1→[x.a+1,$|y<-f(]⟩ fun g()= type T=⟨A→B⟩|C # end")
	parsedTree, next := parsed(s)
	old := spare(parsedTree)
	l := append(slices.Clone(marked), api.Edit{Text: "spare"})
	all := showAll(old)
	tree, problems, after, _ := Reparse(old, l[:2], next)
	shown, reported := show(tree), showProblems(problems)
	if showAll(old) != all || !slices.Equal(l[:2], marked) || l[2] != (api.Edit{Text: "spare"}) {
		t.Errorf("the arguments became %s and %s", showAll(old), showEdits(l))
	}
	extend(t, tree, tree)
	again, againProblems, _, _ := Reparse(old, l[:2], next)
	spoil(&tree)
	problems = problems[:cap(problems)]
	for i := range problems {
		problems[i] = api.Problem{Doc: "spoilt"}
	}
	if showAll(old) != all || show(again) != shown || showProblems(againProblems) != reported {
		t.Errorf("the results share memory with others: %s and %s", showAll(old), show(again))
	}
	later, _, laterNext, _ := Reparse(old, l[:2], next)
	spoil(&old)
	if show(again) != shown || show(later) != shown || laterNext != after {
		t.Errorf("after the arguments were changed, the trees are %s and %s, want %s", show(again), show(later), shown)
	}
	kept := spare(parsedTree)
	if got := Kept(kept, kept); got != syntax.Count(kept) || showAll(kept) != all {
		t.Errorf("Kept = %d, and the tree became %s", got, showAll(kept))
	}
}

// inside returns a tree that has another one below that many nodes of a kind.
func inside(kind, levels, from int, n api.Node) api.Node {
	for i := range levels {
		n = inner(from+i, kind, n)
	}
	return n
}

// firstLeaf returns the first leaf of a tree that begins with one.
func firstLeaf(n *api.Node) *api.Node {
	for len(n.Kids) > 0 {
		n = &n.Kids[0]
	}
	return n
}

// TestLongTexts would not come to an end if the time grew with the square of the length.
func TestLongTexts(t *testing.T) { // P9.1, P9.2
	const n = 1 << 15
	for _, c := range []struct {
		first, again, last string
		at                 int // of the byte that is replaced
		fresh              int
	}{
		{"", "fun f()=1\n", "", 8, 4},
		{"fun f()=a", "+a", "", 8, n + 4},
		{"fun f()=a", "+a", "", 8 + n, n/2 + 5},
		{"fun f()=a", "+a", "", 8 + 2*n, 5},
		{"fun f()=a", ".a", "", 8 + 2*n, 5},
		{"fun f()=[a", ",a", "]", 9, 5},
		{"fun f()=(", " a", ")", 10 + n, 5},
		{"proc p()=insert t a", ";insert t a", "", 18, 5},
		{"type T=A", "|A", "", 7, 4},
		{"", "$\n", "", 1 + n, 3},
	} {
		s := c.first + strings.Repeat(c.again, n) + c.last
		old, next := parsed(s)
		tree, _, after, err := Reparse(old, []api.Edit{{From: c.at, To: c.at + 1, Text: "X"}}, next)
		if kept := Kept(old, tree); err != api.OK || after != next+syntax.Count(tree)-kept {
			t.Errorf("after an edit of %.20q at %d, %d of %d nodes are kept, and the next number is %d after %d", s, c.at, kept, syntax.Count(tree), after, next)
		} else if after-next != c.fresh {
			t.Errorf("after an edit of %.20q at %d, %d nodes are new, want %d", s, c.at, after-next, c.fresh)
		}
	}
}

func TestDeepTrees(t *testing.T) { // P9.1, P9.2
	const n = 1 << 15
	wrong := inner(0, api.NError, leaf(1, api.Lower, "a"))
	checkSome(t, inside(api.NModule, n, 2, wrong), n+2, []int{2, 0, 1}, n+2)
	checkSome(t, inside(api.NError, n, 2, wrong), n+2, []int{n + 2, 0, 1}, n+3)
	checkSome(t, inside(api.NName, n, 1, leaf(0, api.Lower, "a")), n+1, []int{n + 1, n + 2, 0}, n+3)
	// A long sum of which only the first name is another one has no sum that is the same.
	for _, kind := range []int{api.Lower, api.Upper} {
		sum, next := parsed("fun f()=a" + strings.Repeat("+a", n))
		firstLeaf(&sum.Kids[0].Kids[6]).Kind = kind
		tree, _, after, err := Reparse(sum, nil, next)
		fresh := map[int]int{api.Lower: 0, api.Upper: n + 4}[kind]
		if err != api.OK || after != next+fresh || Kept(sum, tree) != syntax.Count(tree)-fresh {
			t.Errorf("%d nodes are new, want %d", after-next, fresh)
		}
	}
}

// checkSome compares the IDs of a new tree without showing the old one.
func checkSome(t *testing.T, old api.Node, next int, want []int, wantNext int) {
	t.Helper()
	tree, _, after, err := Reparse(old, nil, next)
	if got := syntax.IDs(tree); err != api.OK || !slices.Equal(got, want) || after != wantNext {
		t.Errorf("the IDs are %v and the next number %d, want %v and %d", got, after, want, wantNext)
	}
}
