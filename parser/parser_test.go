package parser

import (
	"slices"
	"strconv"
	"strings"
	"testing"

	"schemalens/api"
	"schemalens/lexer"
	"schemalens/syntax"
)

// kinds are the kinds of inner nodes by the names that the chapter's grammar gives them.
var kinds = map[string]int{
	"NModule": api.NModule, "NType": api.NType, "NCtor": api.NCtor, "NTable": api.NTable, "NField": api.NField,
	"NKey": api.NKey, "NRef": api.NRef, "NCheck": api.NCheck, "NFun": api.NFun, "NParam": api.NParam,
	"NProc": api.NProc, "NInsert": api.NInsert, "NDelete": api.NDelete, "NUpdate": api.NUpdate,
	"NTypeName": api.NTypeName, "NTypeList": api.NTypeList, "NTypeRecord": api.NTypeRecord, "NLet": api.NLet,
	"NIf": api.NIf, "NMatch": api.NMatch, "NArm": api.NArm, "NBinary": api.NBinary, "NUnary": api.NUnary,
	"NDot": api.NDot, "NCall": api.NCall, "NMake": api.NMake, "NRecord": api.NRecord, "NWith": api.NWith,
	"NPair": api.NPair, "NList": api.NList, "NComp": api.NComp, "NGen": api.NGen, "NParen": api.NParen,
	"NLiteral": api.NLiteral, "NName": api.NName, "NHole": api.NHole, "NError": api.NError,
}

func kindName(kind int) string {
	for name, k := range kinds {
		if k == kind {
			return name[1:]
		}
	}
	return "Kind" + strconv.Itoa(kind)
}

func isFiller(kind int) bool {
	return kind == api.Space || kind == api.Comment || kind == api.Bad
}

func isInner(n api.Node) bool { return n.Kind > api.Bad }

// show writes a tree down: a leaf as its text, a filler as a quoted text behind ~, and
// an inner node as its kind with its Kids. IDs and Texts are shown where there are any
// that should not be there.
func show(n api.Node) string {
	id := ""
	if n.ID != 0 {
		id = "#" + strconv.Itoa(n.ID)
	}
	if isFiller(n.Kind) {
		return id + "~" + strconv.QuoteToASCII(n.Text)
	}
	if !isInner(n) {
		return id + n.Text
	}
	return id + n.Text + kindName(n.Kind) + "(" + showKids(n.Kids) + ")"
}

func showKids(kids []api.Node) string {
	var l []string
	for _, k := range kids {
		l = append(l, show(k))
	}
	return strings.Join(l, " ")
}

// without returns the tree without the leaves of these kinds.
func without(n api.Node, kinds ...int) api.Node {
	var kids []api.Node
	for _, k := range n.Kids {
		if !slices.Contains(kinds, k.Kind) {
			kids = append(kids, without(k, kinds...))
		}
	}
	n.Kids = kids
	return n
}

func showProblems(l []api.Problem) string {
	var all []string
	for _, p := range l {
		s := strconv.Itoa(p.Code) + ":" + strconv.Itoa(p.At) + "-" + strconv.Itoa(p.End)
		if p.Doc != "" || len(p.Names) != 0 {
			s += " with a document or names"
		}
		all = append(all, s)
	}
	return strings.Join(all, " ")
}

// unmark returns the text without its marks, and the problems that they stand for: ^ is
// a CodeSyntax and @ a CodeToken at the token behind it, or at the end.
func unmark(marked string) (string, []api.Problem) {
	s := strings.NewReplacer("^", "", "@", "").Replace(marked)
	ends := map[int]int{len(s): len(s)}
	for _, t := range lexer.Tokens(s) {
		ends[t.At] = t.At + len(t.Text)
	}
	var l []api.Problem
	at := 0
	for _, c := range []byte(marked) {
		switch c {
		case '^', '@':
			code := api.CodeSyntax
			if c == '@' {
				code = api.CodeToken
			}
			l = append(l, api.Problem{At: at, End: ends[at], Code: code})
		default:
			at++
		}
	}
	return s, l
}

type parse func(s string) (api.Node, []api.Problem)

// check compares the tree of a marked text, shown without blanks, and its problems.
func check(t *testing.T, f parse, marked, want string) {
	t.Helper()
	s, problems := unmark(marked)
	tree, got := f(s)
	if shown := show(without(tree, api.Space)); shown != want {
		t.Errorf("the tree of %q is\n%s, want\n%s", s, shown, want)
	}
	if showProblems(got) != showProblems(problems) {
		t.Errorf("the problems of %q are %s, want %s", s, showProblems(got), showProblems(problems))
	}
	checkLeaves(t, tree, s)
}

// checkLeaves compares the leaves of a tree with the tokens of the text.
func checkLeaves(t *testing.T, tree api.Node, s string) {
	t.Helper()
	if got := syntax.Text(tree); got != s {
		t.Errorf("the text of the tree of %q is %q", s, got)
	}
	if got, want := syntax.Leaves(tree), lexer.Tokens(s); !slices.Equal(got, want) {
		t.Errorf("the leaves of the tree of %q are %v, want %v", s, got, want)
	}
}

type row struct{ text, tree string }

func checkModules(t *testing.T, rows []row) {
	t.Helper()
	for _, r := range rows {
		check(t, Parse, r.text, "Module("+r.tree+")")
	}
}

// checkExpressions compares the trees of expressions, also as the bodies of functions,
// where there are no tokens behind them.
func checkExpressions(t *testing.T, rows []row) {
	t.Helper()
	for _, r := range rows {
		check(t, Expression, r.text, "Module("+r.tree+")")
		check(t, Parse, "fun f() = "+r.text, "Module(Fun(fun f ( ) = "+r.tree+"))")
	}
}

func TestExamples(t *testing.T) { // P8.1, P8.2
	tree, problems := Parse("fun f(x) = x.a+1")
	want := `Module(Fun(fun ~" " f ( Param(x) ) ~" " = Binary(Dot(Name(~" " x) . a) + Literal(1))))`
	if show(tree) != want || len(problems) != 0 {
		t.Errorf("Parse = %s, %v", show(tree), problems)
	}
	tree, problems = Parse("fun f( = 1")
	want = `Module(Fun(fun ~" " f ( Error(~" " = ~" " 1) Error() Error() Error()))`
	if show(tree) != want || showProblems(problems) != "1:7-8 1:10-10" {
		t.Errorf("Parse = %s, %v", show(tree), problems)
	}
	tree, problems = Expression("if a b then c else d")
	want = `Module(If(if Name(~" " a) Error(~" " b) ~" " then Name(~" " c) ~" " else Name(~" " d)))`
	if show(tree) != want || showProblems(problems) != "1:5-6" {
		t.Errorf("Expression = %s, %v", show(tree), problems)
	}
}

func TestDeclarations(t *testing.T) { // P8.1
	checkModules(t, []row{
		{"", ""},
		{"type T = A", "Type(type T = Ctor(A))"},
		{"type T = A | B(Int) | C", "Type(type T = Ctor(A) | Ctor(B ( TypeName(Int) )) | Ctor(C))"},
		{"type T = A([U])", "Type(type T = Ctor(A ( TypeList([ TypeName(U) ]) )))"},
		{"type T = A({})", "Type(type T = Ctor(A ( TypeRecord({ }) )))"},
		{"type T = A({a: Int, b: {c: [Text]}})", "Type(type T = Ctor(A ( TypeRecord({ Field(a : TypeName(Int)) , " +
			"Field(b : TypeRecord({ Field(c : TypeList([ TypeName(Text) ])) })) }) )))"},
		{"table t {} key (a)", "Table(table t { } Key(key ( a )))"},
		{"table t { a: Int, b: [Text] } key (a, b, c)",
			"Table(table t { Field(a : TypeName(Int)) , Field(b : TypeList([ TypeName(Text) ])) } Key(key ( a , b , c )))"},
		{"table t {} key (a) ref a to u", "Table(table t { } Key(key ( a )) Ref(ref a to u))"},
		{"table t {} key (a) ref a to u ref b to v check a < 1",
			"Table(table t { } Key(key ( a )) Ref(ref a to u) Ref(ref b to v) Check(check Binary(Name(a) < Literal(1))))"},
		{"table t {} key (a) check not true", "Table(table t { } Key(key ( a )) Check(check Unary(not Literal(true))))"},
		{"fun f() = 1", "Fun(fun f ( ) = Literal(1))"},
		{"fun f(): Int = 1", "Fun(fun f ( ) : TypeName(Int) = Literal(1))"},
		{"fun f(a, b: Int, c = 1, d: [Int] = 2) = a", "Fun(fun f ( Param(a) , Param(b : TypeName(Int)) , Param(c = Literal(1)) , " +
			"Param(d : TypeList([ TypeName(Int) ]) = Literal(2)) ) = Name(a))"},
		{"proc p() = insert t {}", "Proc(proc p ( ) = Insert(insert t Record({ })))"},
		{"proc p(a, b: T = C) = delete t as x where a", "Proc(proc p ( Param(a) , Param(b : TypeName(T) = Make(C)) ) = " +
			"Delete(delete t as x where Name(a)))"},
		{"proc p() = update t as x where a set b", "Proc(proc p ( ) = Update(update t as x where Name(a) set Name(b)))"},
		{"proc p() = insert t a; delete t as x where b; update u as y where c set d; insert u e", "Proc(proc p ( ) = " +
			"Insert(insert t Name(a)) ; Delete(delete t as x where Name(b)) ; " +
			"Update(update u as y where Name(c) set Name(d)) ; Insert(insert u Name(e)))"},
		{"fun f() = 1 fun g() = 2 type T = A proc p() = insert t a table t {} key (a) fun h() = 3", "Fun(fun f ( ) = Literal(1)) " +
			"Fun(fun g ( ) = Literal(2)) Type(type T = Ctor(A)) Proc(proc p ( ) = Insert(insert t Name(a))) " +
			"Table(table t { } Key(key ( a ))) Fun(fun h ( ) = Literal(3))"},
	})
}

func TestAtoms(t *testing.T) { // P8.1
	checkExpressions(t, []row{
		{"12", "Literal(12)"},
		{`"a b"`, `Literal("a b")`},
		{"true", "Literal(true)"},
		{"false", "Literal(false)"},
		{"?", "Hole(?)"},
		{"(x)", "Paren(( Name(x) ))"},
		{"x", "Name(x)"},
		{"f()", "Call(f ( ))"},
		{"f(a)", "Call(f ( Name(a) ))"},
		{"f (a, 1, g())", "Call(f ( Name(a) , Literal(1) , Call(g ( )) ))"},
		{"m.f()", "Call(m . f ( ))"},
		{"m . f (a, b)", "Call(m . f ( Name(a) , Name(b) ))"},
		{"C", "Make(C)"},
		{"C(x)", "Make(C ( Name(x) ))"},
		{"{}", "Record({ })"},
		{"{a = 1}", "Record({ Pair(a = Literal(1)) })"},
		{"{a = 1, b = {}}", "Record({ Pair(a = Literal(1)) , Pair(b = Record({ })) })"},
		{"{x with a = 1}", "With({ Name(x) with Pair(a = Literal(1)) })"},
		{"{f(x) with a = 1, b = 2}", "With({ Call(f ( Name(x) )) with Pair(a = Literal(1)) , Pair(b = Literal(2)) })"},
		{"{{} with a = 1}", "With({ Record({ }) with Pair(a = Literal(1)) })"},
		{"{x == y with a = 1}", "With({ Binary(Name(x) == Name(y)) with Pair(a = Literal(1)) })"},
		{"[]", "List([ ])"},
		{"[a]", "List([ Name(a) ])"},
		{"[a, b, []]", "List([ Name(a) , Name(b) , List([ ]) ])"},
		{"[a | x <- t]", "Comp([ Name(a) | Gen(x <- Name(t)) ])"},
		{"[[a | b] | x <- [c], d, f(x), y <- e]", "Comp([ Comp([ Name(a) | Gen(Name(b)) ]) | Gen(x <- List([ Name(c) ])) , " +
			"Gen(Name(d)) , Gen(Call(f ( Name(x) ))) , Gen(y <- Name(e)) ])"},
		{"[let x = 1 in x | if a then b else c, not a]", "Comp([ Let(let x = Literal(1) in Name(x)) | " +
			"Gen(If(if Name(a) then Name(b) else Name(c))) , Gen(Unary(not Name(a))) ])"},
	})
}

func TestExpressions(t *testing.T) { // P8.1
	checkExpressions(t, []row{
		{"let x = 1 in x", "Let(let x = Literal(1) in Name(x))"},
		{"let x = let y = 1 in y in let z = x in z",
			"Let(let x = Let(let y = Literal(1) in Name(y)) in Let(let z = Name(x) in Name(z)))"},
		{"if a then b else c", "If(if Name(a) then Name(b) else Name(c))"},
		{"if if a then b else c then d else if e then f else g", "If(if If(if Name(a) then Name(b) else Name(c)) then Name(d) " +
			"else If(if Name(e) then Name(f) else Name(g)))"},
		{"match x {C -> 1}", "Match(match Name(x) { Arm(C -> Literal(1)) })"},
		{"match f(x) {C -> 1, D(y) -> y, E -> match y {F -> 2}}", "Match(match Call(f ( Name(x) )) { Arm(C -> Literal(1)) , " +
			"Arm(D ( y ) -> Name(y)) , Arm(E -> Match(match Name(y) { Arm(F -> Literal(2)) })) })"},
		{"match {} {C -> 1}", "Match(match Record({ }) { Arm(C -> Literal(1)) })"},
		{"not a", "Unary(not Name(a))"},
		{"not not a", "Unary(not Unary(not Name(a)))"},
		{"not a.b", "Unary(not Dot(Name(a) . b))"},
		{"a.b", "Dot(Name(a) . b)"},
		{"a.b.c", "Dot(Dot(Name(a) . b) . c)"},
		{"1.a", "Dot(Literal(1) . a)"},
		{"f(x).a.b", "Dot(Dot(Call(f ( Name(x) )) . a) . b)"},
		{"m.f(x).a", "Dot(Call(m . f ( Name(x) )) . a)"},
		{"[a].b", "Dot(List([ Name(a) ]) . b)"},
		{"let x = 1 in a or x", "Let(let x = Literal(1) in Binary(Name(a) or Name(x)))"},
		{"a - b - c", "Binary(Binary(Name(a) - Name(b)) - Name(c))"},
		{"a - b + c ++ d - e", "Binary(Binary(Binary(Binary(Name(a) - Name(b)) + Name(c)) ++ Name(d)) - Name(e))"},
		{"a or b and not c == d + e * f.g", "Binary(Name(a) or Binary(Name(b) and Unary(not " +
			"Binary(Name(c) == Binary(Name(d) + Binary(Name(e) * Dot(Name(f) . g)))))))"},
		{"a.b * c + d < e and f or g", "Binary(Binary(Binary(Binary(Binary(Dot(Name(a) . b) * Name(c)) + Name(d)) < Name(e)) " +
			"and Name(f)) or Name(g))"},
	})
}

// precedences are those of the binary operators; the greater one binds more closely.
var precedences = map[string]int{
	"or": 1, "and": 2, "==": 4, "!=": 4, "<": 4, "<=": 4, "+": 5, "-": 5, "++": 5, "*": 6,
}

func TestPairsOfOperators(t *testing.T) { // P8.1, P8.3
	for f, left := range precedences {
		for g, right := range precedences {
			toLeft := "Binary(Binary(Name(a) " + f + " Name(b)) " + g + " Name(c))"
			toRight := "Binary(Name(a) " + f + " Binary(Name(b) " + g + " Name(c)))"
			switch {
			case left == 4 && right == 4:
				check(t, Expression, "a "+f+" b ^"+g+" c", "Module(Binary(Name(a) "+f+" Name(b)) Error("+g+" c))")
			case left < right:
				checkExpressions(t, []row{{"a " + f + " b " + g + " c", toRight}})
			default:
				checkExpressions(t, []row{{"a " + f + " b " + g + " c", toLeft}})
			}
		}
	}
}

func TestOperandsOfOperators(t *testing.T) { // P8.1, P8.3
	for f, precedence := range precedences {
		rows := []row{
			{"a.b " + f + " c.d", "Binary(Dot(Name(a) . b) " + f + " Dot(Name(c) . d))"},
			{"a " + f + "^", "Binary(Name(a) " + f + " Error())"},
			{"(a " + f + " ^)", "Paren(( Binary(Name(a) " + f + " Error()) ))"},
			{"a " + f + " ^if b", "Binary(Name(a) " + f + " Error(if b))"},
			{"a " + f + " ^let x = 1", "Binary(Name(a) " + f + " Error(let x = 1))"},
			{"a " + f + " ^match x {C -> 1", "Binary(Name(a) " + f + " Error(match x { C -> 1))"},
			{"a " + f + " ^as + b", "Binary(Name(a) " + f + " Error(as + b))"},
		}
		if precedence < 3 {
			rows = append(rows,
				row{"a " + f + " not b", "Binary(Name(a) " + f + " Unary(not Name(b)))"},
				row{"not a " + f + " b", "Binary(Unary(not Name(a)) " + f + " Name(b))"})
		} else {
			rows = append(rows,
				row{"a " + f + " ^not b + c", "Binary(Name(a) " + f + " Error(not b + c))"},
				row{"not a " + f + " b", "Unary(not Binary(Name(a) " + f + " Name(b)))"})
		}
		checkExpressions(t, rows)
	}
}

func TestErrorsInTypes(t *testing.T) { // P8.2, P8.3, P8.4
	checkModules(t, []row{
		{"type^", "Type(type Error() Error() Error())"},
		{"type ^= A ^| B", "Type(type Error(= A) Error() Error() | Ctor(B))"},
		{"type T ^A^", "Type(type T Error(A) Error())"},
		{"type T = ^", "Type(type T = Error())"},
		{"type T = ^a | B", "Type(type T = Error(a) | Ctor(B))"},
		{"type T = A |^", "Type(type T = Ctor(A) | Error())"},
		{"type T = A | ^| B", "Type(type T = Ctor(A) | Error() | Ctor(B))"},
		{"type T = A(^)", "Type(type T = Ctor(A ( Error() )))"},
		{"type T = A(^a)", "Type(type T = Ctor(A ( Error(a) )))"},
		{"type T = A(Int^", "Type(type T = Ctor(A ( TypeName(Int) Error()))"},
		{"type T = A(Int ^Text) | B", "Type(type T = Ctor(A ( TypeName(Int) Error(Text) )) | Ctor(B))"},
		{"type T = A(Int^, Text)", "Type(type T = Ctor(A ( TypeName(Int) Error())) Error(, Text ))"},
		{"type T = A([^])", "Type(type T = Ctor(A ( TypeList([ Error() ]) )))"},
		{"type T = A([Int ^Int])", "Type(type T = Ctor(A ( TypeList([ TypeName(Int) Error(Int) ]) )))"},
		{"type T = A([Int^)", "Type(type T = Ctor(A ( TypeList([ TypeName(Int) Error()) )))"},
		{"type T = A([Int^, Int])", "Type(type T = Ctor(A ( TypeList([ TypeName(Int) Error()) Error())) Error(, Int ] ))"},
		{"type T = A({a^})", "Type(type T = Ctor(A ( TypeRecord({ Field(a Error() Error()) }) )))"},
		{"type T = A({a: Int^)", "Type(type T = Ctor(A ( TypeRecord({ Field(a : TypeName(Int)) Error()) )))"},
		{"type T = A({^A, b: Int})", "Type(type T = Ctor(A ( TypeRecord({ Error(A) , Field(b : TypeName(Int)) }) )))"},
		{"type T = A ^B | C", "Type(type T = Ctor(A)) Error(B | C)"},
	})
}

func TestErrorsInTables(t *testing.T) { // P8.2, P8.3, P8.4
	checkModules(t, []row{
		{"table^", "Table(table Error() Error() Error() Error() Error())"},
		{"table ^{a: Int^} key (a)", "Table(table Error({ a : Int) Error() } Key(key ( a )))"},
		{"table t ^key (a^)", "Table(table t Error(key ( a) Error() Error() Error()) Error())"},
		{"table t {^", "Table(table t { Error() Error() Error())"},
		{"table t {a^} key (a)", "Table(table t { Field(a Error() Error()) } Key(key ( a )))"},
		{"table t {a: ^} key (a)", "Table(table t { Field(a : Error()) } Key(key ( a )))"},
		{"table t {a ^Int^} key (a)", "Table(table t { Field(a Error(Int) Error()) } Key(key ( a )))"},
		{"table t {a: Int ^b: Int} key (a)", "Table(table t { Field(a : TypeName(Int)) Error(b : Int) } Key(key ( a )))"},
		{"table t {a: Int ^b, c: Int} key (a)",
			"Table(table t { Field(a : TypeName(Int)) Error(b) , Field(c : TypeName(Int)) } Key(key ( a )))"},
		{"table t {a: Int, ^} key (a)", "Table(table t { Field(a : TypeName(Int)) , Error() } Key(key ( a )))"},
		{"table t {^, a: Int} key (a)", "Table(table t { Error() , Field(a : TypeName(Int)) } Key(key ( a )))"},
		{"table t {}^", "Table(table t { } Error())"},
		{"table t {} ^ref a to b", "Table(table t { } Error(ref a to b))"},
		{"table t {} ^check a", "Table(table t { } Error(check a))"},
		{"table t {} key^", "Table(table t { } Key(key Error() Error() Error()))"},
		{"table t {} key ^a^) ref b to u", "Table(table t { } Key(key Error(a) Error() )) Ref(ref b to u))"},
		{"table t {} key (^)", "Table(table t { } Key(key ( Error() )))"},
		{"table t {} key (a ^b, c)", "Table(table t { } Key(key ( a Error(b) , c )))"},
		{"table t {} key (a, ^1) check b", "Table(table t { } Key(key ( a , Error(1) )) Check(check Name(b)))"},
		{"table t {} key (a,^", "Table(table t { } Key(key ( a , Error() Error()))"},
		{"table t {} key (a^", "Table(table t { } Key(key ( a Error()))"},
		{"table t {} key (a ^} b)", "Table(table t { } Key(key ( a Error())) Error(} b ))"},
		{"table t {} key (a) ref ^A to u check b^", "Table(table t { } Key(key ( a )) Ref(ref Error(A to u check b) Error() Error()))"},
		{"table t {} key (a) ref a ^u ref b^", "Table(table t { } Key(key ( a )) Ref(ref a Error(u ref b) Error()))"},
		{"table t {} key (a) ref a to ^U", "Table(table t { } Key(key ( a )) Ref(ref a to Error(U)))"},
		{"table t {} key (a) ref a to^", "Table(table t { } Key(key ( a )) Ref(ref a to Error()))"},
		{"table t {} key (a) check ^", "Table(table t { } Key(key ( a )) Check(check Error()))"},
		{"table t {} key (a) check ^key", "Table(table t { } Key(key ( a )) Check(check Error(key)))"},
		{"table t {} key (a) check a ^ref b to u", "Table(table t { } Key(key ( a )) Check(check Name(a))) Error(ref b to u)"},
		{"table t {} key (a) check a ^check b", "Table(table t { } Key(key ( a )) Check(check Name(a))) Error(check b)"},
		{"table t {} key (a) ^key (b)", "Table(table t { } Key(key ( a ))) Error(key ( b ))"},
	})
}

func TestErrorsInFunctions(t *testing.T) { // P8.2, P8.3, P8.4
	six := "Error() Error() Error() Error() Error() Error()"
	checkModules(t, []row{
		{"fun^", "Fun(fun " + six + ")"},
		{"fun ^fun ^fun^", "Fun(fun " + six + ") Fun(fun " + six + ") Fun(fun " + six + ")"},
		{"fun ^F(^) = 1", "Fun(fun Error(F () Error() ) = Literal(1))"},
		{"fun f ^x) = 1", "Fun(fun f Error(x) ) = Literal(1))"},
		{"fun f ^x^, y) = 1", "Fun(fun f Error(x) Error() , Param(y) ) = Literal(1))"},
		{"fun f(^1) = 1", "Fun(fun f ( Error(1) ) = Literal(1))"},
		{"fun f(^", "Fun(fun f ( Error() Error() Error() Error())"},
		{"fun f(x^", "Fun(fun f ( Param(x) Error() Error() Error())"},
		{"fun f(x,^", "Fun(fun f ( Param(x) , Error() Error() Error() Error())"},
		{"fun f(x, ^) = 1", "Fun(fun f ( Param(x) , Error() ) = Literal(1))"},
		{"fun f(^, x) = 1", "Fun(fun f ( Error() , Param(x) ) = Literal(1))"},
		{"fun f(x: ^) = 1", "Fun(fun f ( Param(x : Error()) ) = Literal(1))"},
		{"fun f(x: ^= 2, y) = 1", "Fun(fun f ( Param(x : Error(= 2)) , Param(y) ) = Literal(1))"},
		{"fun f(x = ^, y) = 1", "Fun(fun f ( Param(x = Error()) , Param(y) ) = Literal(1))"},
		{"fun f(x ^y: Int, z) = 1", "Fun(fun f ( Param(x) Error(y : Int) , Param(z) ) = Literal(1))"},
		{"fun f(x ^1 2) = 1", "Fun(fun f ( Param(x) Error(1 2) ) = Literal(1))"},
		{"fun f(x = 1 ^: Int) = x", "Fun(fun f ( Param(x = Literal(1)) Error(: Int) ) = Name(x))"},
		{"fun f(x ^1 ^] = 2", "Fun(fun f ( Param(x) Error(1) Error() Error()) Error(] = 2)"},
		{"fun f(): ^= 1^", "Fun(fun f ( ) : Error(= 1) Error() Error())"},
		{"fun f(): Int^", "Fun(fun f ( ) : TypeName(Int) Error() Error())"},
		{"fun f() ^1^", "Fun(fun f ( ) Error(1) Error())"},
		{"fun f() =^", "Fun(fun f ( ) = Error())"},
		{"fun f() = ^fun g() = 1", "Fun(fun f ( ) = Error()) Fun(fun g ( ) = Literal(1))"},
		{"fun f( ^type T = A", "Fun(fun f ( Error() Error() Error() Error()) Type(type T = Ctor(A))"},
		{"fun f() = a ^b", "Fun(fun f ( ) = Name(a)) Error(b)"},
	})
}

func TestErrorsInProcedures(t *testing.T) { // P8.2, P8.3, P8.4
	checkModules(t, []row{
		{"proc^", "Proc(proc Error() Error() Error() Error() Error() Error())"},
		{"proc ^1(^) = insert t a", "Proc(proc Error(1 () Error() ) = Insert(insert t Name(a)))"},
		{"proc p(x ^1, y) = insert t a", "Proc(proc p ( Param(x) Error(1) , Param(y) ) = Insert(insert t Name(a)))"},
		{"proc p() ^: Int = insert t a^", "Proc(proc p ( ) Error(: Int = insert t a) Error())"},
		{"proc p() ^insert t a^; delete t^", "Proc(proc p ( ) Error(insert t a) Error() ; Delete(delete t Error() Error() Error() Error()))"},
		{"proc p() = ^x; insert t a", "Proc(proc p ( ) = Error(x) ; Insert(insert t Name(a)))"},
		{"proc p() = insert t a;^", "Proc(proc p ( ) = Insert(insert t Name(a)) ; Error())"},
		{"proc p() = ^; ^; insert t a", "Proc(proc p ( ) = Error() ; Error() ; Insert(insert t Name(a)))"},
		{"proc p() = insert ^T a^", "Proc(proc p ( ) = Insert(insert Error(T a) Error()))"},
		{"proc p() = insert t ^; insert u a", "Proc(proc p ( ) = Insert(insert t Error()) ; Insert(insert u Name(a)))"},
		{"proc p() = insert t a ^insert u b", "Proc(proc p ( ) = Insert(insert t Name(a))) Error(insert u b)"},
		{"proc p() = delete t ^x ^where a", "Proc(proc p ( ) = Delete(delete t Error(x) Error() where Name(a)))"},
		{"proc p() = delete ^as x ^where a", "Proc(proc p ( ) = Delete(delete Error(as x) Error() Error() where Name(a)))"},
		{"proc p() = delete t as ^where a", "Proc(proc p ( ) = Delete(delete t as Error() where Name(a)))"},
		{"proc p() = delete t as x ^a^; insert t a", "Proc(proc p ( ) = Delete(delete t as x Error(a) Error()) ; Insert(insert t Name(a)))"},
		{"proc p() = delete t as x where ^; insert t a", "Proc(proc p ( ) = Delete(delete t as x where Error()) ; Insert(insert t Name(a)))"},
		{"proc p() = delete t as x where a ^set b", "Proc(proc p ( ) = Delete(delete t as x where Name(a))) Error(set b)"},
		{"proc p() = update t as x where a^", "Proc(proc p ( ) = Update(update t as x where Name(a) Error() Error()))"},
		{"proc p() = update t as x where ^set b", "Proc(proc p ( ) = Update(update t as x where Error() set Name(b)))"},
		{"proc p() = update t as x where a ^b set c", "Proc(proc p ( ) = Update(update t as x where Name(a) Error(b) set Name(c)))"},
		{"proc p() = update t as x ^set b", "Proc(proc p ( ) = Update(update t as x Error() Error() set Name(b)))"},
		{"proc p() = update ^1 as x ^where a set b", "Proc(proc p ( ) = Update(update Error(1 as x) Error() Error() where Name(a) set Name(b)))"},
		{"proc p() = update t as x where a set ^; insert t a",
			"Proc(proc p ( ) = Update(update t as x where Name(a) set Error()) ; Insert(insert t Name(a)))"},
	})
}

func TestErrorsInExpressions(t *testing.T) { // P8.2, P8.3, P8.4
	checkExpressions(t, []row{
		{"^", "Error()"},
		{"^+ 1", "Error(+ 1)"},
		{"^key", "Error(key)"},
		{"let^", "Let(let Error() Error() Error() Error() Error())"},
		{"let ^= 1 ^in x", "Let(let Error(= 1) Error() Error() in Name(x))"},
		{"let x ^1 ^in x", "Let(let x Error(1) Error() in Name(x))"},
		{"let x = ^in x", "Let(let x = Error() in Name(x))"},
		{"let x = 1 ^x^", "Let(let x = Literal(1) Error(x) Error())"},
		{"let x = 1 ^y in x", "Let(let x = Literal(1) Error(y) in Name(x))"},
		{"let x = 1 in^", "Let(let x = Literal(1) in Error())"},
		{"if^", "If(if Error() Error() Error() Error() Error())"},
		{"if ^then b else c", "If(if Error() then Name(b) else Name(c))"},
		{"if a ^else c", "If(if Name(a) Error() Error() else Name(c))"},
		{"if a then ^else c", "If(if Name(a) then Error() else Name(c))"},
		{"if a then b ^c else d", "If(if Name(a) then Name(b) Error(c) else Name(d))"},
		{"if a then b^", "If(if Name(a) then Name(b) Error() Error())"},
		{"if a then b else ^", "If(if Name(a) then Name(b) else Error())"},
		{"match^", "Match(match Error() Error() Error() Error())"},
		{"match {C ^-> 1^}^", "Match(match With({ Make(C) Error(-> 1) Error() }) Error() Error() Error())"},
		{"match x ^C -> 1^}", "Match(match Name(x) Error(C -> 1) Error() })"},
		{"match x {^}", "Match(match Name(x) { Error() })"},
		{"match x {^c -> 1, D -> 2}", "Match(match Name(x) { Error(c -> 1) , Arm(D -> Literal(2)) })"},
		{"match x {C ^1^}", "Match(match Name(x) { Arm(C Error(1) Error()) })"},
		{"match x {C -> ^, D -> 2}", "Match(match Name(x) { Arm(C -> Error()) , Arm(D -> Literal(2)) })"},
		{"match x {C(^) -> 1}", "Match(match Name(x) { Arm(C ( Error() ) -> Literal(1)) })"},
		{"match x {C(x ^y) -> 1}", "Match(match Name(x) { Arm(C ( x Error(y) ) -> Literal(1)) })"},
		{"match x {C(x^", "Match(match Name(x) { Arm(C ( x Error() Error() Error()) Error())"},
		{"match x {C -> 1 ^D -> 2, E -> 3}", "Match(match Name(x) { Arm(C -> Literal(1)) Error(D -> 2) , Arm(E -> Literal(3)) })"},
		{"match x {C -> 1^", "Match(match Name(x) { Arm(C -> Literal(1)) Error())"},
		{"not^", "Unary(not Error())"},
		{"not not ^if a", "Unary(not Unary(not Error(if a)))"},
		{"not ^let x", "Unary(not Error(let x))"},
		{"not ^match x", "Unary(not Error(match x))"},
		{"not ^* a", "Unary(not Error(* a))"},
		{"a.^", "Dot(Name(a) . Error())"},
		{"a.^1", "Dot(Name(a) . Error(1))"},
		{"a.^B.c", "Dot(Name(a) . Error(B . c))"},
		{"a.^key", "Dot(Name(a) . Error(key))"},
		{"(^)", "Paren(( Error() ))"},
		{"(^", "Paren(( Error() Error())"},
		{"(^+ a)", "Paren(( Error(+ a) ))"},
		{"(a ^b)", "Paren(( Name(a) Error(b) ))"},
		{"(a^", "Paren(( Name(a) Error())"},
		{"f(^", "Call(f ( Error() Error())"},
		{"f(a^", "Call(f ( Name(a) Error())"},
		{"f(a,^", "Call(f ( Name(a) , Error() Error())"},
		{"f(^, a)", "Call(f ( Error() , Name(a) ))"},
		{"f(a, ^)", "Call(f ( Name(a) , Error() ))"},
		{"f(a ^b, c)", "Call(f ( Name(a) Error(b) , Name(c) ))"},
		{"f(a ^b c)", "Call(f ( Name(a) Error(b c) ))"},
		{"f(a ^b, c ^d, ^)", "Call(f ( Name(a) Error(b) , Name(c) Error(d) , Error() ))"},
		{"m.f(^", "Call(m . f ( Error() Error())"},
		{"m.f(a ^b, ^)", "Call(m . f ( Name(a) Error(b) , Error() ))"},
		{"C(^)", "Make(C ( Error() ))"},
		{"C(^", "Make(C ( Error() Error())"},
		{"C(a ^b)", "Make(C ( Name(a) Error(b) ))"},
		{"{^", "With({ Error() Error() Error() Error())"},
		{"{a^}", "With({ Name(a) Error() Error() })"},
		{"{a ^b with c = 1^}", "With({ Name(a) Error(b with c = 1) Error() })"},
		{"{A ^= 1^}", "With({ Make(A) Error(= 1) Error() })"},
		{"{^with a = 1^}", "With({ Error(with a = 1) Error() Error() })"},
		{"{^, a = 1}", "With({ Error() Error() Error() , Pair(a = Literal(1)) })"},
		{"{x with ^}", "With({ Name(x) with Error() })"},
		{"{x with ^1}", "With({ Name(x) with Error(1) })"},
		{"{x with a = 1 ^b = 2, c = 3}", "With({ Name(x) with Pair(a = Literal(1)) Error(b = 2) , Pair(c = Literal(3)) })"},
		{"{x with a = 1^", "With({ Name(x) with Pair(a = Literal(1)) Error())"},
		{"{a = ^}", "Record({ Pair(a = Error()) })"},
		{"{a = 1 ^b = 2, c = 3}", "Record({ Pair(a = Literal(1)) Error(b = 2) , Pair(c = Literal(3)) })"},
		{"{a = 1, ^}", "Record({ Pair(a = Literal(1)) , Error() })"},
		{"{a = 1, ^1}", "Record({ Pair(a = Literal(1)) , Error(1) })"},
		{"{a = 1, b^}", "Record({ Pair(a = Literal(1)) , Pair(b Error() Error()) })"},
		{"{a = 1^", "Record({ Pair(a = Literal(1)) Error())"},
		{"[^", "List([ Error() Error())"},
		{"[^, a]", "List([ Error() , Name(a) ])"},
		{"[a, ^]", "List([ Name(a) , Error() ])"},
		{"[a ^b, c]", "List([ Name(a) Error(b) , Name(c) ])"},
		{"[a^", "List([ Name(a) Error())"},
		{"[^| x <- t]", "Comp([ Error() | Gen(x <- Name(t)) ])"},
		{"[^+ 1 | x <- t]", "Comp([ Error(+ 1) | Gen(x <- Name(t)) ])"},
		{"[a |^", "Comp([ Name(a) | Error() Error())"},
		{"[a | ^]", "Comp([ Name(a) | Error() ])"},
		{"[a | ^<- t, b]", "Comp([ Name(a) | Error(<- t) , Gen(Name(b)) ])"},
		{"[a | x <- ^, b]", "Comp([ Name(a) | Gen(x <- Error()) , Gen(Name(b)) ])"},
		{"[a | x <- t ^y <- u, b]", "Comp([ Name(a) | Gen(x <- Name(t)) Error(y <- u) , Gen(Name(b)) ])"},
		{"[a | X ^<- t]", "Comp([ Name(a) | Gen(Make(X)) Error(<- t) ])"},
		{"[a | b, ^]", "Comp([ Name(a) | Gen(Name(b)) , Error() ])"},
	})
}

func TestWhatFollowsAnExpression(t *testing.T) { // P8.4, P8.8
	for _, r := range []row{
		{"a ^b", "Name(a) Error(b)"},
		{"a ^) fun f() = 1 , in", "Name(a) Error() fun f ( ) = 1 , in)"},
		{"^) a", "Error() Error() a)"},
		{"^fun f() = 1", "Error() Error(fun f ( ) = 1)"},
		{"^+ a ^) b", "Error(+ a) Error() b)"},
		{"(a^, b)", "Paren(( Name(a) Error()) Error(, b ))"},
		{"C(a^, b)", "Make(C ( Name(a) Error()) Error(, b ))"},
		{"[a ^b ^| x <- t]", "List([ Name(a) Error(b)) Error(| x <- t ])"},
		{"[a, b ^| x <- t]", "List([ Name(a) , Name(b) Error()) Error(| x <- t ])"},
		{"[a | b ^| c]", "Comp([ Name(a) | Gen(Name(b)) Error()) Error(| c ])"},
		{"f(a ^b ^] c)", "Call(f ( Name(a) Error(b)) Error(] c ))"},
		{"m.^F(a^)", "Dot(Name(m) . Error(F ( a)) Error())"},
		{"a.b.c ^(d)", "Dot(Dot(Name(a) . b) . c) Error(( d ))"},
		{"1 ^(c)", "Literal(1) Error(( c ))"},
		{"a + ^let x = 1 ^in 2", "Binary(Name(a) + Error(let x = 1)) Error(in 2)"},
		{"match x {C(x^, ^y^) -> 1}",
			"Match(match Name(x) { Arm(C ( x Error() Error() Error()) , Error(y) Error()) Error() -> 1 })"},
	} {
		check(t, Expression, r.text, "Module("+r.tree+")")
	}
}
