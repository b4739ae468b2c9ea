package ast

import (
	"strings"
	"testing"

	"schemalens/api"
	"schemalens/parser"
)

func TestCanonicalExpressions(t *testing.T) { // P10.5
	for s, want := range map[string]string{
		"007":                        "7",
		"1099511627776":              "1099511627776",
		`"a  #b"`:                    `"a  #b"`,
		`""`:                         `""`,
		"true":                       "true",
		"( false )":                  "false",
		"x_1":                        "x_1",
		"?#":                         "?",
		"f( )":                       "f()",
		"f( x,(1+2) )":               "f(x, 1 + 2)",
		"m . f( )":                   "m.f()",
		"m.f((let x=1 in x),not y)":  "m.f(let x = 1 in x, not y)",
		"C":                          "C",
		"C( x )":                     "C(x)",
		"C((if a then b else c))":    "C(if a then b else c)",
		"{ }":                        "{}",
		"{a=1}":                      "{ a = 1 }",
		"{b=(1),a={ }}":              "{ b = 1, a = {} }",
		"{x with a=1}":               "{ x with a = 1 }",
		"{{} with a=1,b=x or y}":     "{ {} with a = 1, b = x or y }",
		"{(match x{A->1}) with a=1}": "{ match x { A -> 1 } with a = 1 }",
		"x.a . b":                    "x.a.b",
		"(x.a).b":                    "x.a.b",
		"(x+y).a":                    "(x + y).a",
		"(not x).a":                  "(not x).a",
		"(let x=1 in x).a":           "(let x = 1 in x).a",
		"(f(x)).a":                   "f(x).a",
		"[]":                         "[]",
		"[1,2 , x]":                  "[1, 2, x]",
		"[x|x<-t]":                   "[x | x <- t]",
		"[x|x<-t,x<y,y<-(a or b)]":   "[x | x <- t, x < y, y <- a or b]",
		"[(let x=1 in x)|y]":         "[let x = 1 in x | y]",
		"let x=(let y=1 in y) in x":  "let x = let y = 1 in y in x",
		"if(a)then(b)else(c)":        "if a then b else c",
		"if if a then b else c then d else if a then b else c": "if if a then b else c then d else if a then b else c",
		"match x{A->1,B(y)->y}":                                "match x { A -> 1, B(y) -> y }",
		"match(match x{A->1}){A->match y{B->2}}":               "match match x { A -> 1 } { A -> match y { B -> 2 } }",
		"a or b or c":                                          "a or b or c",
		"a or(b or c)":                                         "a or (b or c)",
		"(a or b)or c":                                         "a or b or c",
		"a and b or c and d":                                   "a and b or c and d",
		"(a or b)and(c or d)":                                  "(a or b) and (c or d)",
		"a and(b and c)":                                       "a and (b and c)",
		"not not a":                                            "not not a",
		"not(not a)":                                           "not not a",
		"not(a and b)":                                         "not (a and b)",
		"(not a)and not b":                                     "not a and not b",
		"not(a==b)":                                            "not a == b",
		"(not a)==b":                                           "(not a) == b",
		"a==(not b)":                                           "a == (not b)",
		"(a==b)==c":                                            "(a == b) == c",
		"a==(b==c)":                                            "a == (b == c)",
		"(a<b)!=(c<=d)":                                        "(a < b) != (c <= d)",
		"a+b==c-d":                                             "a + b == c - d",
		"a-b-c":                                                "a - b - c",
		"a-(b-c)":                                              "a - (b - c)",
		"a++(b+c)":                                             "a ++ (b + c)",
		"(a++b)+c":                                             "a ++ b + c",
		"a*b*c":                                                "a * b * c",
		"a*(b*c)":                                              "a * (b * c)",
		"(a+b)*(c+d)":                                          "(a + b) * (c + d)",
		"a*b+c*d":                                              "a * b + c * d",
		"a+(b*c)":                                              "a + b * c",
		"(x.a)*(y.b)":                                          "x.a * y.b",
		"1+(let x=2 in x)":                                     "1 + (let x = 2 in x)",
		"(if a then b else c)+1":                               "(if a then b else c) + 1",
		"not(match x{A->1})":                                   "not (match x { A -> 1 })",
		"(let x=1 in x) or (? )":                               "(let x = 1 in x) or ?",
		"(x)==({a=1})":                                         "x == { a = 1 }",
		"([x|y])++([])":                                        "[x | y] ++ []",
		"let x=1 in x+(x)":                                     "let x = 1 in x + x",
		"let x=1 in (x or y) or z":                             "let x = 1 in x or y or z",
	} {
		e, err := ParseExpr(s)
		if err != api.OK {
			t.Errorf("%q is refused", s)
		}
		if got, err := PrintExpr(e); got != want || err != api.OK {
			t.Errorf("PrintExpr of %q returns %q and %v, want %q", s, got, err, want)
		}
		if again, err := ParseExpr(want); err != api.OK || !EqualExpr(again, e) {
			t.Errorf("%q is another expression than %q", want, s)
		}
		if got := modelSource(e); got != want {
			t.Errorf("the model prints %q as %q, want %q", s, got, want)
		}
	}
}

func TestParenthesesAreNecessary(t *testing.T) { // P10.5, P10.10
	found := 0
	for seed := range uint64(1500) {
		a := newAuthor(seed)
		e := a.expr(4)
		s, err := PrintExpr(e)
		if err != api.OK {
			t.Fatalf("PrintExpr returns %v for %s", err, showExpr(e))
		}
		if again, err := ParseExpr(s); err != api.OK || !EqualExpr(again, e) {
			t.Fatalf("%q is another expression than %s", s, showExpr(e))
		}
		tree, _ := parser.Expression(s)
		eachParen(place{tree, 0}, func(at, end int) {
			found++
			less := s[:at] + " " + s[at+1:end-1] + " " + s[end:]
			if other, err := ParseExpr(less); err == api.OK && EqualExpr(other, e) {
				t.Fatalf("%q has more parentheses than %q", s, less)
			}
		})
	}
	if found < 500 {
		t.Errorf("only %d expressions are in parentheses", found)
	}
}

// eachParen calls f with the beginning and the end of each NParen.
func eachParen(p place, f func(at, end int)) {
	if p.node.Kind == api.NParen {
		f(p.span())
	}
	for _, k := range p.parts() {
		eachParen(k, f)
	}
}

func TestCanonicalTypes(t *testing.T) { // P10.6
	for s, want := range map[string]string{
		"Int":                     "Int",
		" Text":                   "Text",
		"Bool#":                   "Bool",
		"T":                       "T",
		"[ Int ]":                 "[Int]",
		"[[{ }]]":                 "[[{}]]",
		"{a:Int}":                 "{ a: Int }",
		"{b:[T],a:{c:Text}}":      "{ a: { c: Text }, b: [T] }",
		"{a_:Int,a:Text,a1:Bool}": "{ a: Text, a1: Bool, a_: Int }",
	} {
		x, _ := ParseType(s)
		if got, err := PrintType(x); got != want || err != api.OK {
			t.Errorf("PrintType of %q returns %q and %v, want %q", s, got, err, want)
		}
		if again, err := ParseType(want); err != api.OK || showType(again) != showType(x) {
			t.Errorf("%q is another type than %q", want, s)
		}
	}
}

func checkPrintType(t *testing.T, x api.Type, want api.Errno) {
	t.Helper()
	if s, err := PrintType(x); err != want || (s == "") != (want != api.OK) {
		t.Errorf("PrintType returns %.200q and %v for %.200s, want %v", s, err, showType(x), want)
	}
}

func listOf(x api.Type) api.Type { return api.Type{Kind: api.TyList, Kids: []api.Type{x}} }

func recordOf(names string, kids ...api.Type) api.Type {
	return api.Type{Kind: api.TyRecord, Names: strings.Fields(names), Kids: kids}
}

func TestErrorsOfTypes(t *testing.T) { // P10.6
	integer, sum := api.Type{}, api.Type{Kind: api.TySum, Name: "T"}
	for _, kind := range []int{api.TyInt, api.TyText, api.TyBool} {
		checkPrintType(t, api.Type{Kind: kind}, api.OK)
		checkPrintType(t, api.Type{Kind: kind, Name: "Int"}, api.ErrArg)
	}
	for _, x := range []api.Type{integer, {Kind: api.TyText}, {Kind: api.TyBool}, sum, listOf(sum), recordOf(""), recordOf("a b", sum, integer)} {
		checkPrintType(t, x, api.OK)
		number := x
		number.N = 1
		name := x
		name.Name = "T"
		names := x
		names.Names = append([]string{"a"}, x.Names...)
		kids := x
		kids.Kids = append([]api.Type{{}}, x.Kids...)
		if x.Kind == api.TyRecord {
			checkPrintType(t, number, api.ErrType)
			number.N = -1
			checkPrintType(t, number, api.ErrType)
			number.Name = "T"
			checkPrintType(t, number, api.ErrType)
		} else {
			checkPrintType(t, number, api.ErrArg)
		}
		if x.Kind != api.TySum {
			checkPrintType(t, name, api.ErrArg)
		}
		checkPrintType(t, names, api.ErrArg)
		checkPrintType(t, kids, api.ErrArg)
	}
	for _, n := range []int{0, 1, -1} {
		checkPrintType(t, api.Type{Kind: api.TyVar, N: n}, api.ErrType)
		checkPrintType(t, api.Type{Kind: api.TyVar, N: n, Name: "x", Kids: []api.Type{integer}}, api.ErrType)
	}
	for _, kind := range []int{-1, api.TyVar + 1, 100} {
		checkPrintType(t, api.Type{Kind: kind}, api.ErrArg)
	}
	checkPrintType(t, api.Type{Kind: api.TyList}, api.ErrArg)
	checkPrintType(t, api.Type{Kind: api.TyList, Kids: []api.Type{integer, integer}}, api.ErrArg)
	checkPrintType(t, recordOf("a b", integer), api.ErrArg)
	for _, name := range capitals {
		want := api.OK
		if name == "Int" || name == "Text" || name == "Bool" {
			want = api.ErrName
		}
		checkPrintType(t, api.Type{Kind: api.TySum, Name: name}, want)
	}
	checkPrintType(t, api.Type{Kind: api.TySum, Name: "Bool"}, api.ErrName)
	for _, name := range noCapitals {
		checkPrintType(t, api.Type{Kind: api.TySum, Name: name}, api.ErrName)
	}
	for _, name := range words {
		checkPrintType(t, api.Type{Kind: api.TyRecord, Names: []string{name}, Kids: []api.Type{integer}}, api.OK)
	}
	for _, name := range append([]string{""}, noWords...) {
		checkPrintType(t, api.Type{Kind: api.TyRecord, Names: []string{name}, Kids: []api.Type{integer}}, api.ErrName)
	}
	for names, want := range map[string]api.Errno{
		"a b": api.OK, "a a1": api.OK, "a1 a_": api.OK, "b a": api.ErrName, "a a": api.ErrName, "a_ a1": api.ErrName, "a X": api.ErrName,
	} {
		checkPrintType(t, recordOf(names, integer, sum), want)
	}
	checkPrintType(t, recordOf("a b b", integer, sum, sum), api.ErrName)
}

func TestOrderOfErrorsOfTypes(t *testing.T) { // P10.6
	integer := api.Type{}
	bad := map[api.Errno]api.Type{
		api.ErrType: {Kind: api.TyVar, N: 3}, api.ErrArg: {Kind: api.TyList}, api.ErrName: {Kind: api.TySum, Name: "t"},
	}
	for err, x := range bad {
		checkPrintType(t, listOf(recordOf("a b", integer, listOf(x))), err)
		for _, y := range bad {
			checkPrintType(t, recordOf("a b c", listOf(x), y, integer), err)
		}
		outer := recordOf("b a", x, x)
		checkPrintType(t, outer, api.ErrName)
		outer.Name = "T"
		checkPrintType(t, outer, api.ErrArg)
		outer.N = 1
		checkPrintType(t, outer, api.ErrType)
		deep := listOf(integer)
		for range api.MaxDepth {
			deep = listOf(deep)
		}
		checkPrintType(t, recordOf("a b", deep, x), err)
	}
	for _, leaf := range []api.Type{integer, recordOf(""), {Kind: api.TySum, Name: "T"}} {
		deep := leaf
		for range api.MaxDepth - 1 {
			deep = recordOf("a b c", integer, deep, integer)
		}
		checkPrintType(t, deep, api.OK)
		checkPrintType(t, listOf(deep), api.ErrLimit)
		checkPrintType(t, recordOf("a b", deep.Kids[1], deep.Kids[1]), api.OK)
		checkPrintType(t, recordOf("a b c", integer, deep, integer), api.ErrLimit)
	}
}
