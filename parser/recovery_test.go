package parser

import (
	"slices"
	"strings"
	"testing"

	"schemalens/api"
	"schemalens/syntax"
)

// starters are the words with which a declaration begins, and stops those before which
// an NError ends, as the chapter lists them.
var (
	starters = strings.Fields("type table fun proc")
	stops    = append(strings.Fields(") ] } , ; | then else in where set"), starters...)
)

// vocabulary contains a token with each text or kind that the grammar tells apart.
func vocabulary() []string {
	return append(strings.Fields("type table key ref to check fun proc let in if then else match insert delete as where "+
		"update set with and or not true false == != <= <- -> ++ < > = + - * ( ) { } [ ] , . : | ; ?"),
		"x", "C", "1", `"s"`)
}

func checkBeginning(t *testing.T, s, want string) {
	t.Helper()
	tree, _ := Parse(s)
	if got := show(without(tree, api.Space)); !strings.HasPrefix(got, want) {
		t.Errorf("the tree of %q is %s, want one that begins with %s", s, got, want)
	}
}

func TestStops(t *testing.T) { // P8.2
	for _, w := range vocabulary() {
		later, here := "Error(a "+w+" b)", "Error("+w+" b)"
		if slices.Contains(stops, w) {
			later, here = "Error(a)", "Error()"
		}
		checkBeginning(t, "fun f() = (1 a "+w+" b", "Module(Fun(fun f ( ) = Paren(( Literal(1) "+later)
		checkBeginning(t, "fun f( -> a "+w+" b", "Module(Fun(fun f ( "+strings.Replace(later, "a", "-> a", 1))
		if !slices.Contains(strings.Fields(`( { [ ? true false x C 1 "s"`), w) {
			checkBeginning(t, "fun f() = 1 - "+w+" b", "Module(Fun(fun f ( ) = Binary(Literal(1) - "+here)
		}
	}
}

func TestWhatIsNoDeclaration(t *testing.T) { // P8.5
	for _, w := range vocabulary() {
		if slices.Contains(starters, w) {
			checkBeginning(t, "1 "+w, "Module(Error(1) ")
			continue
		}
		checkModules(t, []row{
			{"^" + w, "Error(" + w + ")"},
			{"^" + w + " fun f() = 1", "Error(" + w + ") Fun(fun f ( ) = Literal(1))"},
			{"^x " + w + " y", "Error(x " + w + " y)"},
			{"^) ) " + w + " type T = A", "Error() ) " + w + ") Type(type T = Ctor(A))"},
		})
	}
	checkModules(t, []row{
		{"^1 ) , 2 fun f() = 1 ^] x proc p() = insert t a ^| b type T = A", "Error(1 ) , 2) Fun(fun f ( ) = Literal(1)) " +
			"Error(] x) Proc(proc p ( ) = Insert(insert t Name(a))) Error(| b) Type(type T = Ctor(A))"},
	})
}

// A wrapper is a way in which an expression or a type is nested one level deeper. A mark
// stands before the first one that is on this level.
type wrapper struct{ before, after string }

var exprWrappers = []wrapper{
	{"(^", ")"}, {"let x = ^", " in y"}, {"let x = ^y in ", ""}, {"if ^", " then x else y"}, {"if ^x then ", " else y"},
	{"if ^x then y else ", ""}, {"match ^", " {C -> x}"}, {"match ^x {C -> ", "}"}, {"match ^x {C -> y, D(z) -> ", ", E -> y}"},
	{"f(^", ")"}, {"f(^x, ", ", y)"}, {"m.f(^", ")"}, {"m.f(^x, ", ", y)"}, {"C(^", ")"}, {"{a = ^", "}"},
	{"{a = ^x, b = ", ", c = y}"}, {"{^", " with a = x}"}, {"{^x with a = ", "}"}, {"{^x with a = y, b = ", ", c = y}"},
	{"[^", "]"}, {"[^x, ", ", y]"}, {"[^", " | x <- y]"}, {"[^x | ", "]"}, {"[^x | y <- ", "]"}, {"[^x | y, z <- ", ", y]"},
	{"1 + (^", ") * y"}, {"a.b == m.f(^x.a, ", ")"},
}

var typeWrappers = []wrapper{
	{"[^", "]"}, {"{a: ^", "}"}, {"{a: ^", ", b: Int}"}, {"{a: ^Int, b: ", "}"}, {"{a: ^Int, b: ", ", c: Int}"},
}

// These are the places for expressions and for types that are nested in none.
var exprPlaces = []wrapper{
	{"fun f() = ", ""}, {"fun f(x = ", ", y) = 1"}, {"fun f(x: Int = ", ") = 1"}, {"proc p(x = ", ") = insert t 1"},
	{"table t {} key (a) check ", ""}, {"proc p() = insert t ", "; insert t 1"}, {"proc p() = delete t as x where ", ""},
	{"proc p() = update t as x where ", " set 1"}, {"proc p() = update t as x where 1 set ", ""},
}

var typePlaces = []wrapper{
	{"type T = A | B(", ")"}, {"table t {a: Int, b: ", "} key (a)"}, {"fun f(x: ", ") = 1"}, {"fun f(x): ", " = 1"}, {"proc p(x: ", " = 1) = insert t 1"},
}

// nest returns an expression or a type inside the wrappers, the first one outermost.
func nest(l []wrapper, inner string) string {
	for _, w := range slices.Backward(l) {
		inner = strings.Replace(w.before, "^", "", 1) + inner + w.after
	}
	return inner
}

// checkNesting checks a text in which one level is too many, with a mark where it begins:
// all before the next declaration is in one NError, and no other one has Kids.
func checkNesting(t *testing.T, f parse, marked, next string) {
	t.Helper()
	s, want := unmark(marked + next)
	tree, got := f(s)
	checkLeaves(t, tree, s)
	swallowed := strings.TrimSpace(s[want[0].At : len(s)-len(next)])
	var texts []string
	var visit func(n api.Node)
	visit = func(n api.Node) {
		if n.Kind == api.NError && len(n.Kids) > 0 {
			texts = append(texts, strings.TrimSpace(syntax.Text(n)))
		}
		for _, k := range n.Kids {
			visit(k)
		}
	}
	visit(tree)
	if !slices.Equal(texts, []string{swallowed}) {
		t.Errorf("the errors of %q are %q, want %q", s, texts, swallowed)
	}
	if len(got) == 0 || showProblems(got[:1]) != showProblems(want) {
		t.Errorf("the problems of %q are %s, want %s first", s, showProblems(got), showProblems(want))
	}
	for _, p := range got[min(1, len(got)):] {
		if p.At != len(s)-len(strings.TrimSpace(next)) {
			t.Errorf("the problems of %q are %s", s, showProblems(got))
		}
	}
}

func checkClean(t *testing.T, f parse, s string) {
	t.Helper()
	tree, problems := f(s)
	checkLeaves(t, tree, s)
	if len(problems) != 0 || strings.Contains(show(tree), "Error") {
		t.Errorf("the problems of %q are %s, and the tree is %s", s, showProblems(problems), show(tree))
	}
}

func TestNestingOfExpressions(t *testing.T) { // P8.6
	const most = api.MaxDepth - 1
	for _, w := range exprWrappers {
		l := slices.Repeat([]wrapper{w}, most)
		checkClean(t, Expression, nest(l, "x"))
		inner := w.before + "x" + w.after
		checkNesting(t, Expression, nest(l, inner), "")
		checkNesting(t, Parse, "fun f() = "+nest(l, inner), "")
		checkNesting(t, Parse, "fun f() = "+nest(l, inner), " fun g() = "+nest(l, "x"))
	}
	for i := range exprWrappers {
		l := slices.Concat(exprWrappers[i:], exprWrappers, exprWrappers)[:most]
		checkClean(t, Expression, nest(l, "x"))
		checkNesting(t, Expression, nest(l, "(^x)"), "")
		checkNesting(t, Expression, nest(l, "[^{} | x <- t]"), "")
	}
	for _, p := range exprPlaces {
		l := slices.Repeat([]wrapper{{"(", ")"}}, most)
		deep := nest(l, "x")
		checkClean(t, Parse, p.before+deep+p.after)
		checkClean(t, Parse, p.before+deep+" + "+deep+" * f("+deep[1:len(deep)-1]+")"+p.after)
		checkNesting(t, Parse, p.before+nest(l, "(^x)")+p.after, "")
		for _, next := range []string{" type T = A", " table t {} key (a)", " fun g() = 1", " proc p() = insert t 1"} {
			checkNesting(t, Parse, p.before+nest(l, "f(^1 , ) 2, then else in where set ; |)")+p.after, next)
		}
	}
}

func TestNestingOfTypes(t *testing.T) { // P8.6
	const most = api.MaxDepth - 1
	for _, p := range typePlaces {
		for _, w := range typeWrappers {
			l := slices.Repeat([]wrapper{w}, most)
			checkClean(t, Parse, p.before+nest(l, "Int")+p.after)
			checkClean(t, Parse, p.before+nest(l, "{}")+p.after)
			inner := w.before + "Int" + w.after
			checkNesting(t, Parse, p.before+nest(l, inner)+p.after, "")
			checkNesting(t, Parse, p.before+nest(l, inner)+p.after, " type T = A("+nest(l, "Int")+")")
		}
	}
	checkNesting(t, Parse, "type T = A("+strings.Repeat("[", api.MaxDepth)+"^{} ) ] , ; | then else in where set A", " type T = A")
}

func TestNestingOfNot(t *testing.T) { // P8.6
	const most = api.MaxDepth - 1
	not := strings.Repeat("not ", most)
	checkClean(t, Expression, not+"x")
	checkClean(t, Expression, not+"x and "+not+"x or "+not+"x.a")
	checkNesting(t, Expression, not+"^not x", "")
	checkNesting(t, Expression, not+"^not x and 1 or 2", "")
	checkNesting(t, Expression, "x or "+not+"^not not x", "")
	checkNesting(t, Parse, "fun f() = "+not+"^not x then , )", " fun g() = "+not+"x")
	checkNesting(t, Expression, not+"(^x)", "")
	for _, w := range exprWrappers {
		l := slices.Repeat([]wrapper{w}, most-1)
		checkClean(t, Expression, nest(l, "not x"))
		checkNesting(t, Expression, nest(l, "not ^not x"), "")
		checkNesting(t, Expression, nest(l, "not (^1)"), "")
		checkNesting(t, Expression, nest(append(l, wrapper{"(", ")"}), "^not x"), "")
	}
	// A part that is missing where nothing could begin is an error as anywhere else.
	check(t, Expression, not+"^+", "Module("+strings.Repeat("Unary(not ", most)+"Error(+)"+strings.Repeat(")", most)+")")
}

func TestWhatIsMissingOnTheDeepestLevel(t *testing.T) { // P8.3, P8.6
	open, close := strings.Repeat("(", api.MaxDepth), strings.Repeat(")", api.MaxDepth)
	shown, end := strings.Repeat("Paren(( ", api.MaxDepth), strings.Repeat(" ))", api.MaxDepth)
	check(t, Expression, open+"^"+close, "Module("+shown+"Error()"+end+")")
	check(t, Expression, open+"^+ 1"+close, "Module("+shown+"Error(+ 1)"+end+")")
	// There is a place for a generator, but none for an expression in it.
	const most = api.MaxDepth - 1
	check(t, Expression, open[1:]+"[^| x <- ^t]"+close[1:]+"^", "Module("+strings.Repeat("Paren(( ", most)+
		"Comp([ Error() | Gen(x <- Error(t ]"+strings.Repeat(" )", most)+")) Error())"+strings.Repeat(" Error())", most)+")")
}
