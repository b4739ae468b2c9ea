package ast

import (
	"strings"
	"testing"

	"schemalens/api"
	"schemalens/parser"
	"schemalens/syntax"
)

func checkShown(t *testing.T, s, got, want string) {
	t.Helper()
	if got != want {
		t.Errorf("%q is\n%s, want\n%s", s, got, want)
	}
}

func TestExpressions(t *testing.T) { // P10.3, P10.8
	for s, want := range map[string]string{
		"0":                                "Int@0-1",
		"12":                               "Int#12@0-2",
		"007":                              "Int#7@0-3",
		"1099511627776":                    "Int#1099511627776@0-13",
		"00000000000000000000009":          "Int#9@0-23",
		`""`:                               `Text@0-2`,
		`"a b"`:                            `Text"a b"@0-5`,
		`"# true é"`:                       `Text"# true é"@0-11`,
		"true":                             "Bool#1@0-4",
		"false":                            "Bool@0-5",
		"?":                                "Hole@0-1",
		"x":                                "Var:x@0-1",
		"x_1":                              "Var:x_1@0-3",
		"f()":                              "Call:f@0-3",
		"f(x)":                             "Call:f@0-4(Var:x@2-3)",
		"f ( x , C , 1 )":                  "Call:f@0-15(Var:x@4-5 Make:C@8-9 Int#1@12-13)",
		"m.f()":                            `Call:f"m"@0-5`,
		"m.f(x,m.g(y))":                    `Call:f"m"@0-13(Var:x@4-5 Call:g"m"@6-12(Var:y@10-11))`,
		"C":                                "Make:C@0-1",
		"C(x)":                             "Make:C@0-4(Var:x@2-3)",
		"C(D(E))":                          "Make:C@0-7(Make:D@2-6(Make:E@4-5))",
		"{}":                               "Record@0-2",
		"{ # c\n }":                        "Record@0-8",
		"{b=1,a=x}":                        "Record{b,a}@0-9(Int#1@3-4 Var:x@7-8)",
		"{a=1,a=1}":                        "Record{a,a}@0-9(Int#1@3-4 Int#1@7-8)",
		"{x with a=1}":                     "With{a}@0-12(Var:x@1-2 Int#1@10-11)",
		"{ {} with b=1, a=C }":             "With{b,a}@0-20(Record@2-4 Int#1@12-13 Make:C@17-18)",
		"x.a":                              "Field:a@0-3(Var:x@0-1)",
		"x.a.b":                            "Field:b@0-5(Field:a@0-3(Var:x@0-1))",
		"C.a":                              "Field:a@0-3(Make:C@0-1)",
		"m.f(x).a":                         `Field:a@0-8(Call:f"m"@0-6(Var:x@4-5))`,
		"[]":                               "List@0-2",
		"[1]":                              "List@0-3(Int#1@1-2)",
		"[1,[x]]":                          "List@0-7(Int#1@1-2 List@3-6(Var:x@4-5))",
		"[x|y]":                            "Comp{}@0-5(Var:x@1-2 Var:y@3-4)",
		"[x|x<-t]":                         "Comp{x}@0-8(Var:x@1-2 Var:t@6-7)",
		"[1|x<-t,x,y<-x,x<y]":              "Comp{x,,y,}@0-19(Int#1@1-2 Var:t@6-7 Var:x@8-9 Var:x@13-14 Op:<@15-18(Var:x@15-16 Var:y@17-18))",
		"[1|[x|x<-t]]":                     "Comp{}@0-12(Int#1@1-2 Comp{x}@3-11(Var:x@4-5 Var:t@9-10))",
		"let x=1 in y":                     "Let:x@0-12(Int#1@6-7 Var:y@11-12)",
		"if a then b else c":               "If@0-18(Var:a@3-4 Var:b@10-11 Var:c@17-18)",
		"match x {A->1}":                   "Match{A}||@0-14(Var:x@6-7 Int#1@12-13)",
		"match C {A(y)->y,B->D}":           "Match{A,B}|y,|@0-22(Make:C@6-7 Var:y@15-16 Make:D@20-21)",
		"match {} {A->f(x),B(z)->1}":       "Match{A,B}|,z|@0-26(Record@6-8 Call:f@13-17(Var:x@15-16) Int#1@24-25)",
		"a or b":                           "Op:or@0-6(Var:a@0-1 Var:b@5-6)",
		"a and b":                          "Op:and@0-7(Var:a@0-1 Var:b@6-7)",
		"not a":                            "Op:not@0-5(Var:a@4-5)",
		"not not a":                        "Op:not@0-9(Op:not@4-9(Var:a@8-9))",
		"a==b":                             "Op:==@0-4(Var:a@0-1 Var:b@3-4)",
		"a!=b":                             "Op:!=@0-4(Var:a@0-1 Var:b@3-4)",
		"a<b":                              "Op:<@0-3(Var:a@0-1 Var:b@2-3)",
		"a<=b":                             "Op:<=@0-4(Var:a@0-1 Var:b@3-4)",
		"a+b":                              "Op:+@0-3(Var:a@0-1 Var:b@2-3)",
		"a-b-c":                            "Op:-@0-5(Op:-@0-3(Var:a@0-1 Var:b@2-3) Var:c@4-5)",
		"a++b":                             "Op:++@0-4(Var:a@0-1 Var:b@3-4)",
		"a*b+c":                            "Op:+@0-5(Op:*@0-3(Var:a@0-1 Var:b@2-3) Var:c@4-5)",
		"(x)":                              "Var:x@1-2",
		"( # c\n ( x ) )":                  "Var:x@9-10",
		"(a+b)*c":                          "Op:*@0-7(Op:+@1-4(Var:a@1-2 Var:b@3-4) Var:c@6-7)",
		"a-(b-c)":                          "Op:-@0-7(Var:a@0-1 Op:-@3-6(Var:b@3-4 Var:c@5-6))",
		"(x).a":                            "Field:a@0-5(Var:x@1-2)",
		" x . a ":                          "Field:a@1-6(Var:x@1-2)",
		"#é\n f ( # \")\n x # )\n ) # end": "Call:f@5-23(Var:x@15-16)",
		"let x = ? in x":                   "Let:x@0-14(Hole@8-9 Var:x@13-14)",
	} {
		e, err := ParseExpr(s)
		if err != api.OK {
			t.Errorf("%q is refused: %v", s, err)
			continue
		}
		checkShown(t, s, showExpr(e), want)
		checkShown(t, s, showExpr(body(t, s)), want)
	}
}

func TestExpressionsWithErrors(t *testing.T) { // P10.3
	for s, want := range map[string]string{
		"":                           "Bad",
		" # c\n":                     "Bad",
		" = 1":                       "Bad@1-4",
		"* 1 ~ 2 )":                  "Bad@0-7",
		" 1 +":                       "Bad@1-4",
		"1 + + 2":                    "Bad@0-7",
		"a + b + not c":              "Bad@0-13",
		"(a +) + b":                  "Op:+@0-9(Bad@1-4 Var:b@8-9)",
		"not":                        "Bad@0-3",
		"not not":                    "Op:not@0-7(Bad@4-7)",
		"()":                         "Bad@0-2",
		"(":                          "Bad@0-1",
		" ( 1 2 )":                   "Bad@1-8",
		"((1 2))":                    "Bad@1-6",
		"f(":                         "Bad@0-2",
		"f(,1)":                      "Bad@0-5",
		"f(1 2)":                     "Bad@0-6",
		"f(g(),g(1 2),m.h(3,))":      "Call:f@0-21(Call:g@2-5 Bad@6-12 Bad@13-20)",
		"f(g(),g(1 2),(m.h(3,)))":    `Call:f@0-23(Call:g@2-5 Bad@6-12 Bad@14-21)`,
		"f(1 +, x)":                  "Call:f@0-9(Bad@2-5 Var:x@7-8)",
		"C()":                        "Bad@0-3",
		"C(1,2)":                     "Bad@0-3",
		"[1, , 2]":                   "Bad@0-8",
		"[[1 2], x.]":                "List@0-11(Bad@1-6 Bad@8-10)",
		"[| x <- t]":                 "Bad@0-10",
		"[x |]":                      "Bad@0-5",
		"[x | y <-, z <- 1 2]":       "Bad@0-20",
		"[x | y <- , 1 +]":           "Comp{y,}@0-16(Var:x@1-2 Bad@5-9 Bad@12-15)",
		"[1 + | z <- t]":             "Comp{z}@0-14(Bad@1-4 Var:t@12-13)",
		"{a=}":                       "Record{a}@0-4(Bad@1-3)",
		"{ a = , b = 2 }":            "Record{a,b}@0-15(Bad@2-5 Int#2@12-13)",
		"{ a = (1 2) }":              "Record{a}@0-13(Bad@6-11)",
		"{a=1 2}":                    "Bad@0-7",
		"{a=1, 2}":                   "Bad@0-8",
		"{x with a =, b = c.}":       "With{a,b}@0-20(Var:x@1-2 Bad@8-11 Bad@17-19)",
		"{x with}":                   "Bad@0-8",
		"{x a = 1}":                  "Bad@0-9",
		"{x. with a = 1}":            "Bad@0-15",
		"{(x.) with a = 1}":          "With{a}@0-17(Bad@2-4 Int#1@15-16)",
		"x.":                         "Bad@0-2",
		"x.a.B":                      "Bad@0-5",
		"x.):":                       "Bad@0-2",
		"let x = in y":               "Bad@0-12",
		"let X = 1 in y":             "Bad@0-14",
		"let x = 1 + in y":           "Let:x@0-16(Bad@8-11 Var:y@15-16)",
		"if a b then c else d":       "Bad@0-20",
		"if a then b":                "Bad@0-11",
		"if then else":               "Bad@0-12",
		"if not then (1 else 2":      "If@0-21(Bad@3-6 Bad@12-14 Int#2@20-21)",
		"match x {}":                 "Bad@0-10",
		"match x {1}":                "Bad@0-11",
		"match x {A ->}":             "Match{A}||@0-14(Var:x@6-7 Bad@9-13)",
		"match x {A( -> 1}":          "Match{A}||@0-17(Var:x@6-7 Bad@9-16)",
		"match x {A(y -> 1 , B->2}":  "Match{A,B}|y,|@0-25(Var:x@6-7 Bad@9-17 Int#2@23-24)",
		"match x {A(B) -> 1}":        "Match{A}||@0-19(Var:x@6-7 Bad@9-18)",
		"match x {A 1, B(z)->(2 3)}": "Match{A,B}|,z|@0-26(Var:x@6-7 Bad@9-12 Bad@20-25)",
		"match x {A -> 1 B -> 2}":    "Bad@0-23",
		"match {A -> 1}":             "Bad@0-14",
		// No token that is wrong, but one that is beyond its limits.
		"1099511627777":              "Bad@0-13",
		"f(99999999999999999999, 1)": "Call:f@0-26(Bad@2-22 Int#1@24-25)",
		"\"\xff\"":                   "Bad@0-3",
		"abcdefghijklmnopq":          "Var:abcdefghijklmnopq@0-17",
		"Abcdefghijklmnopq(x)":       "Make:Abcdefghijklmnopq@0-20(Var:x@18-19)",
		"x ~ + !! 1":                 "Op:+@0-10(Var:x@0-1 Int#1@9-10)",
	} {
		checkShown(t, s, showExpr(body(t, s)), want)
		if e, err := ParseExpr(s); err != api.ErrForm || showExpr(e) != "Int" {
			t.Errorf("ParseExpr(%q) returns %s and %v", s, showExpr(e), err)
		}
	}
	long := `"` + strings.Repeat("x", api.MaxString+1) + `"`
	checkShown(t, long, showExpr(body(t, long)), "Bad@0-67")
	whole := long[:1] + long[2:]
	checkShown(t, whole, showExpr(body(t, whole)), `Text"`+strings.Repeat("x", api.MaxString)+`"@0-66`)
}

func TestTypes(t *testing.T) { // P10.1, P10.8
	for s, want := range map[string]string{
		"Int":                        "Int",
		"Text":                       "Text",
		"Bool":                       "Bool",
		"T":                          "Sum:T",
		"INT":                        "Sum:INT",
		" # c\n T # d":               "Sum:T",
		"[Int]":                      "List(Int)",
		"[ [ T ] ]":                  "List(List(Sum:T))",
		"{}":                         "Record",
		"{ # }\n }":                  "Record",
		"{a:Int}":                    "Record{a}(Int)",
		"{b:Int,c:Text,a:[{}]}":      "Record{a,b,c}(List(Record) Int Text)",
		"{b:Int,a:T,b:Text,a:Bool}":  "Record{a,b}(Sum:T Int)",
		"{a:Int,a:Text,a_:Int,a1:T}": "Record{a,a1,a_}(Int Sum:T Int)",
		"{a:{b:{c:U},a:Bool}}":       "Record{a}(Record{a,b}(Bool Record{c}(Sum:U)))",
	} {
		got, err := ParseType(s)
		if err != api.OK {
			t.Errorf("%q is refused: %v", s, err)
			continue
		}
		checkShown(t, s, showType(got), want)
		checkShown(t, s, showType(lower("fun f():" + s + "\n=1").Decls[0].Type), want)
	}
	for _, s := range []string{
		"", " ", "# Int", "int", "1", `"Int"`, "Int Int", "Int)", "(Int)", "[Int", "[]", "[Int]]", "[Int, Int]", "{", "}",
		"{a}", "{a:}", "{a:Int,}", "{A:Int}", "{a:Int b:Int}", "{a=Int}", "Int ~", "~Int", "Int\"", "\"", "type", "Int:", "?",
		"Abcdefghijklmnopq", "{abcdefghijklmnopq:Int}", "[~Int]", "Int | A", "Int)|D(Int", "Int) type U = C(Int", "Int) fun f() = (1",
		") fun f() = (1", "Int)) | C((Int", "{a:Int,,b:Int}", "let", "Int,Int",
	} {
		if got, err := ParseType(s); err != api.ErrForm || showType(got) != "Int" {
			t.Errorf("ParseType(%q) returns %s and %v", s, showType(got), err)
		}
	}
}

func TestNestingOfTypes(t *testing.T) { // P10.8
	for _, w := range [][2]string{{"[", "]"}, {"{a:Int,b:", ",c:Text}"}} {
		for inner := range 3 {
			s := []string{"Int", "{}", "T"}[inner]
			deep := strings.Repeat(w[0], api.MaxDepth-1) + s + strings.Repeat(w[1], api.MaxDepth-1)
			if _, err := ParseType(deep); err != api.OK {
				t.Errorf("ParseType(%q) returns %v", deep, err)
			}
			if _, err := ParseType(w[0] + deep + w[1]); err != api.ErrForm {
				t.Errorf("ParseType returns %v for a level more than %q", err, deep)
			}
		}
	}
}

func TestDeclarations(t *testing.T) { // P10.1, P10.2
	for s, want := range map[string]string{
		"":         "",
		" # c\n":   "",
		"type T=A": "Type:T[5]@0-8 sum:T(A)",
		" type T = A | B ( [ Int ] ) | A({}) # c": "Type:T[6]@1-35 sum:T(A B:List(Int) A:Record)",
		"type Int = Int(Int)":                     "Type:Int[5]@0-19 sum:Int(Int:Int)",
		"table t {} key(a)":                       "Table:t[6]@0-17 table:t key a check Bool#1",
		"#é\ntable t{b:Int,a:[T],b:Text}key(b,a)ref b to u ref a to t check b<1 \n": "Table:t[10]@4-70 table:t(b:Int a:List(Sum:T) b:Text) key b,a(b>u a>t) check Op:<@67-70(Var:b@67-68 Int#1@69-70)",
		"table t {} key(a) check true": "Table:t[6]@0-28 table:t key a check Bool#1@24-28",
		"fun f()=1":                    "Fun:f[4]@0-9 = Int#1@8-9",
		"fun f(x)=( x.a )*(1+2)":       "Fun:f[4]@0-22(x@6-7) = Op:*@9-22(Field:a@11-14(Var:x@11-12) Op:+@18-21(Int#1@18-19 Int#2@20-21))",
		"fun f(x, y : Int, z = {a=1}, x:[Bool] = [] ): {} = (y)": "Fun:f[4]@0-54(x@6-7 y@9-16:Int z@18-27=Record{a}@22-27(Int#1@25-26) x@29-42:List(Bool)=List@40-42):Record = Var:y@52-53",
		"proc p()=insert t x": "Proc:p[5]@0-19(Insert:t@9-19 value Var:x@18-19)",
		"proc p(x:T=C)=delete t as y where (1) ; update u as z where a set b;insert t {}": "Proc:p[5]@0-79(x@7-12:Sum:T=Make:C@11-12)(Delete:t:y@14-37 where Int#1@35-36 Update:u:z@40-67 where Var:a@60-61 value Var:b@66-67 Insert:t@68-79 value Record@77-79)",
		"fun f()=1 fun f()=2\ntype T=A": "Fun:f[4]@0-9 = Int#1@8-9\nFun:f[14]@10-19 = Int#2@18-19\nType:T[25]@20-28 sum:T(A)",
	} {
		checkModule(t, s, want)
		if _, problems := parser.Parse(s); len(problems) > 0 {
			t.Errorf("%q has problems", s)
		}
	}
}

func checkModule(t *testing.T, s, want string) {
	t.Helper()
	if want != "" {
		want = "\n" + want
	}
	checkShown(t, s, showModule(lower(s)), "module:m"+want)
}

func TestDeclarationsWithErrors(t *testing.T) { // P10.1, P10.2, P10.3
	for s, want := range map[string]string{
		// Without a name, there is no declaration.
		"type":                     "",
		"type t = A":               "",
		"table { a : Int } key(a)": "",
		"fun (f) = 1":              "",
		"fun":                      "",
		"proc = insert t x":        "",
		"x fun f() = 1 ) type A":   "Fun:f[6]@2-13 = Int#1@12-13\nType:A[21]@16-22 sum:A",
		"fun f() = 1 fun fun g":    "Fun:f[4]@0-11 = Int#1@10-11\nFun:g[20]@16-21 = Bad@21-21",
		// Types and constructors.
		"type T":                        "Type:T[5]@0-6 sum:T",
		"type T = ":                     "Type:T[5]@0-8 sum:T",
		"type T = a | B | | C":          "Type:T[5]@0-20 sum:T(B C)",
		"type T = A(":                   "Type:T[5]@0-11 sum:T(A:Var)",
		"type T = A() | B(1) | C([)":    "Type:T[5]@0-26 sum:T(A:Var B:Var C:List(Var))",
		"type T = A(Int Int) | B({a:})": "Type:T[5]@0-29 sum:T(A:Int B:Record{a}(Var))",
		"type T = A({a:,b:Int,a:T,C})":  "Type:T[5]@0-28 sum:T(A:Record{a,b}(Var Int))",
		"type T = A (":                  "Type:T[5]@0-12 sum:T(A:Var)",
		"type Abcdefghijklmnopq = Abcdefghijklmnopq(Abcdefghijklmnopq)": "Type:Abcdefghijklmnopq[5]@0-61 sum:Abcdefghijklmnopq(Abcdefghijklmnopq:Sum:Abcdefghijklmnopq)",
		// Tables.
		"table t":                               "Table:t[6]@0-7 table:t key  check Bool#1",
		"table t {a, b:, 1} key(a,B,c":          "Table:t[6]@0-28 table:t(a:Var b:Var) key a,c check Bool#1",
		"table t {} key()":                      "Table:t[6]@0-16 table:t key  check Bool#1",
		"table t {} key(a) ref a ref b to":      "Table:t[6]@0-32 table:t key a check Bool#1",
		"table t {} key(a) ref to u ref b to u": "Table:t[6]@0-37 table:t key a check Bool#1",
		"table t {} key(a) check":               "Table:t[6]@0-23 table:t key a check Bad@23-23",
		"table t {} key(a) check = 1":           "Table:t[6]@0-27 table:t key a check Bad@24-27",
		"table t {} check 1 +":                  "Table:t[6]@0-20 table:t key  check Bool#1",
		"table t {} key(a) check 1 +":           "Table:t[6]@0-27 table:t key a check Bad@24-27",
		// Functions and parameters.
		"fun f":                         "Fun:f[4]@0-5 = Bad@5-5",
		"fun f( = 1":                    "Fun:f[4]@0-10 = Bad@10-10",
		"fun f() = # c":                 "Fun:f[4]@0-9 = Bad@9-9",
		"fun f() x : Int = 1":           "Fun:f[4]@0-19 = Bad@19-19",
		"fun f(x: = 1) : , = 2":         "Fun:f[4]@0-15(x@6-12:Var):Var = Bad@15-15",
		"fun f(x:Int, 1, y=) = (2":      "Fun:f[4]@0-24(x@6-11:Int y@16-18=Bad@18-18) = Bad@22-24",
		"fun f(x = = 1, y: [] = 1 +)=1": "Fun:f[4]@0-29(x@6-13=Bad@10-13 y@15-26:List(Var)=Bad@23-26) = Int#1@28-29",
		"fun f(x = 1 2, y) = 1 2":       "Fun:f[4]@0-21(x@6-11=Int#1@10-11 y@15-16) = Int#1@20-21",
		"fun f() : Int Text = 1":        "Fun:f[4]@0-22:Int = Bad@22-22",
		// Procedures and statements.
		"proc p":                                    "Proc:p[5]@0-6",
		"proc p() = x":                              "Proc:p[5]@0-12",
		"proc p() = insert":                         "Proc:p[5]@0-17(Insert@11-17 value Bad@11-17)",
		"proc p() = insert (t) x":                   "Proc:p[5]@0-20(Insert@11-20 value Bad@11-20)",
		"proc p() = insert t":                       "Proc:p[5]@0-19(Insert:t@11-19 value Bad@11-19)",
		"proc p() = insert t 1 +; ; insert u x":     "Proc:p[5]@0-37(Insert:t@11-23 value Bad@20-23 Insert:u@27-37 value Var:x@36-37)",
		"proc p() = insert T x":                     "Proc:p[5]@0-21(Insert@11-21 value Bad@11-21)",
		"proc p() = delete t where x":               "Proc:p[5]@0-27(Delete:t@11-27 where Bad@11-27)",
		"proc p() = delete t as x where":            "Proc:p[5]@0-30(Delete:t:x@11-30 where Bad@11-30)",
		"proc p() = delete t as X where (1)":        "Proc:p[5]@0-34(Delete:t@11-34 where Bad@11-34)",
		"proc p() = delete t as x where 1 +":        "Proc:p[5]@0-34(Delete:t:x@11-34 where Bad@31-34)",
		"proc p() = update t as x where set b":      "Proc:p[5]@0-36(Update:t:x@11-36 where Bad@11-36 value Bad@11-36)",
		"proc p() = update t as x where a set":      "Proc:p[5]@0-36(Update:t:x@11-36 where Bad@11-36 value Bad@11-36)",
		"proc p() = update t as x where 1 + set (b": "Proc:p[5]@0-41(Update:t:x@11-41 where Bad@31-34 value Bad@39-41)",
		"proc p() = update t as x where a b set c":  "Proc:p[5]@0-40(Update:t:x@11-40 where Bad@11-40 value Bad@11-40)",
		"proc p(x=) = update":                       "Proc:p[5]@0-19(x@7-9=Bad@9-9)(Update@13-19 where Bad@13-19 value Bad@13-19)",
	} {
		checkModule(t, s, want)
		if _, problems := parser.Parse(s); len(problems) == 0 {
			t.Errorf("%q has no problems", s)
		}
	}
}

func TestLowerOfNumberedTrees(t *testing.T) { // P10.1
	for _, s := range samples() {
		tree, _ := parser.Parse(s)
		numbered, _ := syntax.Number(tree, 7)
		if got, want := showModule(Lower("abc", numbered)), showModule(Lower("abc", tree)); got != want {
			t.Errorf("%q is\n%s, want\n%s", s, got, want)
		}
	}
	if m := Lower("", api.Node{Kind: api.NModule}); m.Name != "" || len(m.Decls) != 0 {
		t.Errorf("Lower of an empty tree returns %s", showModule(m))
	}
	if m := Lower("no word", api.Node{Kind: api.NModule}); m.Name != "no word" || len(m.Decls) != 0 {
		t.Errorf("Lower of an empty tree returns %s", showModule(m))
	}
}

func TestNestingOfExpressions(t *testing.T) { // P10.8
	deep := strings.Repeat("(", api.MaxDepth-1) + "x" + strings.Repeat(")", api.MaxDepth-1)
	if e, err := ParseExpr(deep); err != api.OK || showExpr(e) != "Var:x@39-40" {
		t.Errorf("ParseExpr(%q) returns %s and %v", deep, showExpr(e), err)
	}
	if e, err := ParseExpr("(" + deep + ")"); err != api.ErrForm || showExpr(e) != "Int" {
		t.Errorf("ParseExpr of a level more returns %s and %v", showExpr(e), err)
	}
	// The error on the deepest level has all that follows, so all levels miss their ends.
	checkShown(t, deep, showExpr(body(t, "("+deep+")")), "Bad@0-81")
	not := strings.Repeat("not ", api.MaxDepth-1)
	checkShown(t, not, showExpr(body(t, not+"not x")), notChain(api.MaxDepth-1))
}

// notChain is what a chain of one not more than may be nested is shown as.
func notChain(levels int) string {
	end := 4*levels + 5
	s := showExpr(api.Expr{Kind: api.EBad, At: 4 * (levels - 1), End: end})
	for i := levels - 2; i >= 0; i-- {
		s = showExpr(api.Expr{Kind: api.EOp, Name: "not", At: 4 * i, End: end}) + "(" + s + ")"
	}
	return s
}
