package parser

import (
	"strings"
	"testing"

	"schemalens/api"
	"schemalens/lexer"
	"schemalens/syntax"
)

// checkFillers compares the tree of a marked text, shown with its fillers, and its problems.
func checkFillers(t *testing.T, f parse, marked, want string) {
	t.Helper()
	s, problems := unmark(marked)
	tree, got := f(s)
	if show(tree) != want {
		t.Errorf("the tree of %q is\n%s, want\n%s", s, show(tree), want)
	}
	if showProblems(got) != showProblems(problems) {
		t.Errorf("the problems of %q are %s, want %s", s, showProblems(got), showProblems(problems))
	}
	checkLeaves(t, tree, s)
}

func TestFillers(t *testing.T) { // P8.1, P8.2, P8.9
	for _, r := range []row{
		{" ", `~" "`},
		{"# c", `~"# c"`},
		{" @$\n#\n", `~" " ~"$" ~"\n" ~"#" ~"\n"`},
		{" #c\n\nfun @$f (@& ) = 1 # end\n",
			`Fun(~" " ~"#c" ~"\n\n" fun ~" " ~"$" f ~" " ( ~"&" ~" " ) ~" " = Literal(~" " 1)) ~" " ~"# end" ~"\n"`},
		{"fun f( x : Int ,y)=#c\nx", `Fun(fun ~" " f ( Param(~" " x ~" " : TypeName(~" " Int)) ~" " , Param(y) ) = Name(~"#c" ~"\n" x))`},
		{"fun f() = a #c\n + b .c", `Fun(fun ~" " f ( ) ~" " = Binary(Name(~" " a) ~" " ~"#c" ~"\n " + Dot(Name(~" " b) ~" " . c)))`},
		{"fun f() = not a@!+ ( b )", `Fun(fun ~" " f ( ) ~" " = Unary(~" " not Binary(Name(~" " a) ~"!" + Paren(~" " ( Name(~" " b) ~" " )))))`},
		{"fun f() = [ a | x <- t ]", `Fun(fun ~" " f ( ) ~" " = Comp(~" " [ Name(~" " a) ~" " | Gen(~" " x ~" " <- Name(~" " t)) ~" " ]))`},
		{"fun f() = (@$ ^)", `Fun(fun ~" " f ( ) ~" " = Paren(~" " ( Error() ~"$" ~" " )))`},
		{"fun f() = (a ^b @$ c )", `Fun(fun ~" " f ( ) ~" " = Paren(~" " ( Name(a) Error(~" " b ~" " ~"$" ~" " c) ~" " )))`},
		{" ^x y #\n fun f() = 1 ^2 ", `Error(~" " x ~" " y) Fun(~" " ~"#" ~"\n " fun ~" " f ( ) ~" " = Literal(~" " 1)) Error(~" " 2) ~" "`},
		{"fun f() =@$ #c^", `Fun(fun ~" " f ( ) ~" " = Error()) ~"$" ~" " ~"#c"`},
		{"fun f() = @\"abc\n1", `Fun(fun ~" " f ( ) ~" " = Literal(~" " ~"\"abc" ~"\n" 1))`},
		{"fun f() = @\"abc^", `Fun(fun ~" " f ( ) ~" " = Error()) ~" " ~"\"abc"`},
	} {
		checkFillers(t, Parse, r.text, "Module("+r.tree+")")
	}
	for _, r := range []row{
		{"  # c^", `Error() ~"  " ~"# c"`},
		{" a ", `Name(~" " a) ~" "`},
		{" #\n^) @$ a ", `Error() Error(~" " ~"#" ~"\n" ) ~" " ~"$" ~" " a) ~" "`},
		{" ^+ 1 ", `Error(~" " + ~" " 1) ~" "`},
		{"m . f #(\n ( 1 )", `Call(m ~" " . ~" " f ~" " ~"#(" ~"\n " ( Literal(~" " 1) ~" " ))`},
		{"f @$ (x)", `Call(f ~" " ~"$" ~" " ( Name(x) ))`},
		{"{ a #=\n = 1 }", `Record({ Pair(~" " a ~" " ~"#=" ~"\n " = Literal(~" " 1)) ~" " })`},
		{"{ }", `Record({ ~" " })`},
		{"[ ]", `List([ ~" " ])`},
	} {
		checkFillers(t, Expression, r.text, "Module("+r.tree+")")
	}
}

func TestTokensThatDoNotFit(t *testing.T) { // P8.7
	checkModules(t, []row{
		{"fun @abcdefghijklmnopq() = abcdefghijklmnop", "Fun(fun abcdefghijklmnopq ( ) = Name(abcdefghijklmnop))"},
		{"type @Abcdefghijklmnopq = Abcdefghijklmnop", "Type(type Abcdefghijklmnopq = Ctor(Abcdefghijklmnop))"},
		{"fun f() = 1099511627776 + @1099511627777", "Fun(fun f ( ) = Binary(Literal(1099511627776) + Literal(1099511627777)))"},
		{"fun f() = @\"" + strings.Repeat("x", 65) + "\"", "Fun(fun f ( ) = Literal(\"" + strings.Repeat("x", 65) + "\"))"},
		{"fun f() = \"" + strings.Repeat("x", 64) + "\"", "Fun(fun f ( ) = Literal(\"" + strings.Repeat("x", 64) + "\"))"},
		{"fun f() = @\"\xff\"", "Fun(fun f ( ) = Literal(\"\xff\"))"},
		{"fun f() = 1 #" + strings.Repeat("x", 100), `Fun(fun f ( ) = Literal(1)) ~"#` + strings.Repeat("x", 100) + `"`},
		{"fun f() = 1" + strings.Repeat(" \n", 100), "Fun(fun f ( ) = Literal(1))"},
		{"@!fun@$ f() = 1@\xff", `Fun(~"!" fun ~"$" f ( ) = Literal(1)) ~"\xff"`},
		// A token that the grammar does not allow either has two problems.
		{"@^abcdefghijklmnopq", "Error(abcdefghijklmnopq)"},
		{"fun f(@^1099511627777 @$ @abcdefghijklmnopq) = x",
			`Fun(fun f ( Error(1099511627777 ~"$" abcdefghijklmnopq) ) = Name(x))`},
		// Problems are sorted, whatever is found first.
		{"^) @$ fun f(^1, @abcdefghijklmnopq @! ^2) = x ^y @%", `Error()) Fun(~"$" fun f ( Error(1) , ` +
			`Param(abcdefghijklmnopq) Error(~"!" 2) ) = Name(x)) Error(y) ~"%"`},
	})
	check(t, Expression, "@% @1099511627777 @^1099511627777 @&", `Module(Literal(~"%" 1099511627777) Error(1099511627777) ~"&")`)
}

func TestProblemsAreNotRepeated(t *testing.T) { // P8.7
	for _, s := range []string{"fun", "fun f(", "table t", "proc p() = update", "fun f() = f(g(h({a = [", "type T = A({a: [{b: "} {
		tree, problems := Parse(s)
		want := []api.Problem{{At: len(s), End: len(s), Code: api.CodeSyntax}}
		if showProblems(problems) != showProblems(want) || strings.Count(show(tree), "Error()") < 2 {
			t.Errorf("Parse(%q) = %s, %s", s, show(tree), showProblems(problems))
		}
	}
	for marked, errors := range map[string]int{"f(a ^] b": 2, "let ^in ^in": 5, "if a ^else ^else": 4, "{^, ^, ^}": 5} {
		s, want := unmark(marked)
		tree, problems := Expression(s)
		if showProblems(problems) != showProblems(want) || strings.Count(show(tree), "Error(") != errors {
			t.Errorf("Expression(%q) = %s, %s", s, show(tree), showProblems(problems))
		}
	}
}

// spoil changes all nodes of a tree, and all memory that belongs to their Kids.
func spoil(n *api.Node) {
	n.Kids = n.Kids[:cap(n.Kids)]
	for i := range n.Kids {
		spoil(&n.Kids[i])
	}
	*n = api.Node{ID: 1, Kind: api.NHole, Text: "spoilt"}
}

func TestResultsAreIndependent(t *testing.T) { // P8.1, P8.7, P8.8
	const s = "fun f(x) = [x.a + 1, $ | y <- f( ] fun g() = 1 2 type T = A | table # end"
	for _, f := range []parse{Parse, Expression} {
		tree, problems := f(s)
		before, reported := show(tree), showProblems(problems)
		extend(t, tree, tree)
		again, _ := f(s)
		spoil(&tree)
		problems = problems[:cap(problems)]
		for i := range problems {
			problems[i] = api.Problem{Doc: "spoilt"}
		}
		later, laterProblems := f(s)
		if show(again) != before || show(later) != before || showProblems(laterProblems) != reported {
			t.Errorf("the tree is %s, then %s", before, show(later))
		}
	}
}

// extend checks that no node shares memory with another one: what is put behind its Kids
// is found nowhere else.
func extend(t *testing.T, root, n api.Node) {
	t.Helper()
	before := show(root)
	_ = append(n.Kids, api.Node{Kind: api.NHole, Text: "extended"})
	if show(root) != before {
		t.Errorf("%s became %s", before, show(root))
	}
	for _, k := range n.Kids {
		extend(t, root, k)
	}
}

// TestLongTexts would not come to an end if the time grew with the square of the length.
func TestLongTexts(t *testing.T) { // P8.1, P8.7, P8.9
	const n = 1 << 15
	for _, c := range []struct {
		first, again, last string
		problems           int
	}{
		{"fun f() = [", "a, ", "a]", 0},
		{"fun f() = f(", "(a) , # c\n", "a)", 0},
		{"fun f() = [1 |", "x <- t ,", "y]", 0},
		{"fun f() = x", ".a", "", 0},
		{"fun f() = 1", " + 2", "", 0},
		{"fun f() = 1", " or 2 * 3", "", 0},
		{"", "fun f() = 1\n", "", 0},
		{"proc p() = insert t 1", "; insert t 1", "", 0},
		{"table t {} key (a)", " ref a to b", "", 0},
		{"type T = A", "|A", "", 0},
		{"fun f() = ", "(", "", 2},
		{"fun f() = ", "not ", "", 1},
		{"type T = A(", "[{a: ", "", 2},
		{"", "fun ", "", n},
		{"", ")", "", 1},
		{"fun f() = 1 ", "2 , ", "", 1},
		{"fun f(", ", ", ")", n + 2},
		{"fun f() = [a", " 1 2, ", "c]", n},
		{"", "$\n", "", n},
		{"", "fun $ = 1099511627777 \n", "", 4 * n},
	} {
		s := c.first + strings.Repeat(c.again, n) + c.last
		tree, problems := Parse(s)
		if syntax.Text(tree) != s || len(syntax.Leaves(tree)) != len(lexer.Tokens(s)) || len(problems) != c.problems {
			t.Errorf("the tree of %.40q has %d leaves, with %d problems", s, len(syntax.Leaves(tree)), len(problems))
		}
	}
}
