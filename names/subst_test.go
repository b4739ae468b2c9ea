package names

import (
	"reflect"
	"strconv"
	"strings"
	"testing"

	"schemalens/api"
	"schemalens/ast"
)

func parse(t *testing.T, s string) api.Expr {
	t.Helper()
	e, err := ast.ParseExpr(s)
	if err != api.OK {
		t.Fatalf("%s cannot be parsed", s)
	}
	return e
}

func TestFree(t *testing.T) { // P11.6
	for s, want := range map[string]string{
		"1":                               "",
		"x":                               "x",
		"?":                               "",
		"f(b, a, m.g(a, b), c)":           "b a c",
		"let x = x in x":                  "x",
		"let x = y in x + z":              "y z",
		"let x = 1 in let y = x in y":     "",
		"(let x = 1 in x) + x":            "x",
		"let x = (let y = 1 in y) in y":   "y",
		"[x | y <- t, z <- y, x, z]":      "t x",
		"[a | y <- y, b, c <- d, c]":      "y b d a",
		"[x | x <- x, x <- x]":            "x",
		"[[z | y <- z] | x <- y, y <- x]": "y z",
		"match x { A(y) -> y, B -> y, C(x) -> x, D(z) -> w }": "x y w",
		"(match m { A(m) -> let n = m in n }) + n":            "m n",
		"{ a = x, b = { y with a = z, c = x } }.d":            "x y z",
		"if a then b else if c then a else [d, e]":            "a b c d e",
		"A(x) == (not y < z) ++ \"v\"":                        "x y z",
	} {
		if got := strings.Join(Free(parse(t, s)), " "); got != want {
			t.Errorf("Free(%s) = %s, want %s", s, got, want)
		}
	}
	if l := Free(api.Expr{Kind: api.EBad}); len(l) != 0 {
		t.Error(l)
	}
}

func TestSubst(t *testing.T) { // P11.7
	for _, c := range []struct{ e, name, by, want string }{
		{"x", "x", "1 + y", "1 + y"},
		{"y", "x", "1", "y"},
		{"x + y * x", "x", "y + 1", "y + 1 + y * (y + 1)"},
		{"x(x, m.x(x)).x", "x", "y", "x(y, m.x(y)).x"},
		{"{ x = x, y = { x with x = x } }", "x", "z", "{ x = z, y = { z with x = z } }"},
		// bound variables are not replaced
		{"let x = x in x", "x", "y", "let x = y in x"},
		{"[x | y <- x, x <- x, x]", "x", "z", "[x | y <- z, x <- z, x]"},
		{"match x { A(x) -> x, B -> x }", "x", "y", "match y { A(x) -> x, B -> y }"},
		// no free name is captured
		{"let y = x in x", "x", "y", "let y1 = y in y"},
		{"let y = y in x + y", "x", "y", "let y1 = y in y + y1"},
		{"let y = x in y", "x", "y", "let y = y in y"}, // no x in the scope of y
		{"let z = x in x + z", "x", "y", "let z = y in y + z"},
		{"[y | y <- x, z <- t]", "x", "y", "[y | y <- y, z <- t]"},
		{"[y | y <- t, x]", "x", "y", "[y1 | y1 <- t, y]"},
		{"[x | y <- t, y]", "x", "y", "[y | y1 <- t, y1]"},
		{"[y | y <- t, x, y <- y, y]", "x", "y", "[y | y1 <- t, y, y <- y1, y]"},
		{"[y | y <- t, y <- x, y]", "x", "y", "[y | y1 <- t, y <- y, y]"},
		{"match x { A(y) -> y, B(y) -> x + y, C(z) -> x }", "x", "y", "match y { A(y) -> y, B(y1) -> y + y1, C(z) -> y }"},
		{"[z | z <- t, z == y]", "y", "z", "[z1 | z1 <- t, z1 == z]"},
		// also a variable that is hidden
		{"let y = 1 in let y = y in x + y", "x", "y", "let y1 = 1 in let y2 = y1 in y + y2"},
		{"let y = 1 in let x = y in x + y", "x", "y", "let y = 1 in let x = y in x + y"},
		// but not those that are bound in what is put in
		{"let y = x in x", "x", "let y = 1 in y", "let y = let y = 1 in y in let y = 1 in y"},
		{"let z = x in let y = x in x", "x", "[y | y <- z]", "let z1 = [y | y <- z] in let y = [y | y <- z] in [y | y <- z]"},
		// new names avoid what is used
		{"let y = 1 in x + y1", "x", "y", "let y2 = 1 in y + y1"},
		{"let y = 1 in let y1 = 2 in x", "x", "y", "let y2 = 1 in let y1 = 2 in y"},
		{"let y = 1 in x", "x", "y + y1 + y2", "let y3 = 1 in y + y1 + y2"},
		{"let y = 1 in y1", "y1", "y", "let y2 = 1 in y"}, // the name itself is avoided
		{"let y = 1 in x", "x", "let y1 = y in y1", "let y1 = 1 in let y1 = y in y1"},
		{"f(let y = y1(1) in x, m.y2(y.y3))", "x", "y", "f(let y1 = y1(1) in y, m.y2(y.y3))"},
		{"(let y = 1 in x) + (let y = 2 in y + x) + (let y = 3 in y)", "x", "y", "(let y1 = 1 in y) + (let y2 = 2 in y2 + y) + (let y = 3 in y)"},
		// in the order of names
		{"[let y = 1 in x | y <- let y = 2 in x, y <- [x], x]", "x", "y", "[let y4 = 1 in y | y2 <- let y1 = 2 in y, y3 <- [y], y]"},
		{"let y = let z = 1 in x in let z = x in x", "x", "y + z", "let y1 = let z1 = 1 in y + z in let z2 = y + z in y + z"},
		{"match let y = 1 in x { A(y) -> x, B(y) -> let y = x in x }", "x", "y", "match let y1 = 1 in y { A(y2) -> y, B(y3) -> let y4 = y in y }"},
		{"let abcdefghijklmnop = 1 in x", "x", "abcdefghijklmnop", "let abcdefghijklmno1 = 1 in abcdefghijklmnop"},
		{"let abcdefghijklmnop = 1 in let abcdefghijklmnoq = 2 in x", "x", "abcdefghijklmnop + abcdefghijklmnoq",
			"let abcdefghijklmno1 = 1 in let abcdefghijklmno2 = 2 in abcdefghijklmnop + abcdefghijklmnoq"},
		{"let y = 1 in let y1 = 2 in x", "x", "y + y1", "let y2 = 1 in let y11 = 2 in y + y1"},
		// names that are not free
		{"let x = 1 in x + y", "x", "y", "let x = 1 in x + y"},
		{"let y = y in y", "x", "y", "let y = y in y"},
		{"let y = x in x", "x", "x", "let y = x in x"},
		{"?", "x", "y", "?"},
	} {
		got, err := ast.PrintExpr(Subst(parse(t, c.e), c.name, parse(t, c.by)))
		if err != api.OK || got != c.want {
			t.Errorf("Subst(%s, %s, %s) = %s, want %s", c.e, c.name, c.by, got, c.want)
		}
	}
}

func TestSubstKeepsPositions(t *testing.T) { // P11.7
	text := "  [x + a | a <- x, y]"
	by := parse(t, "   f(a)")
	got, want := Subst(parse(t, text), "x", by), parse(t, text)
	want.Names[0], want.Kids[0].Kids[1].Name = "a1", "a1"
	want.Kids[0].Kids[0], want.Kids[1] = by, by
	if !reflect.DeepEqual(got, want) {
		t.Errorf("%+v, want %+v", got, want)
	}
}

func TestSubstOfNoName(t *testing.T) { // P11.7
	e := list(variable("", 1, 2), api.Expr{Kind: api.EBad, At: 3}, api.Expr{Kind: api.ELet, Kids: []api.Expr{variable("x", 0, 0), variable("", 0, 0)}})
	for _, c := range []struct {
		name string
		by   api.Expr
	}{{"", variable("y", 5, 6)}, {"y", variable("x", 5, 6)}, {"x", variable("x", 0, 0)}, {"", variable("", 7, 8)}} {
		if got := Subst(e, c.name, c.by); !reflect.DeepEqual(got, e) {
			t.Errorf("Subst of %q: %+v", c.name, got)
		}
	}
	if got := Subst(e, "x", variable("", 0, 0)); got.Kids[2].Kids[0].Name != "" || got.Kids[2].Name != "" {
		t.Errorf("%+v", got)
	}
}

func TestFresh(t *testing.T) { // P11.8
	numbers := func(want string, n int) []string {
		l := []string{want}
		for k := 1; k <= n; k++ {
			digits := strconv.Itoa(k)
			if len(want)+len(digits) > 16 {
				l = append(l, want[:16-len(digits)]+digits)
			} else {
				l = append(l, want+digits)
			}
		}
		return l
	}
	for _, c := range []struct {
		want string
		used []string
		name string
	}{
		{"x", nil, "x"},
		{"x", []string{"y", "x1", ""}, "x"},
		{"x", []string{"x"}, "x1"},
		{"x", []string{"x2", "x", "x1"}, "x3"},
		{"x", []string{"x", "x2", "x"}, "x1"},
		{"x1", []string{"x1"}, "x11"},
		{"x", numbers("x", 9), "x10"},
		{"x", numbers("x", 1000), "x1001"},
		{"let", nil, "let1"},
		{"let", []string{"let1", "let3"}, "let2"},
		{"not", []string{"not"}, "not1"},
		{"sort", nil, "sort"},
		{"Int", nil, "Int"},
		{"", nil, ""},
		{"", []string{""}, "1"},
		{"abcdefghijklmno", []string{"abcdefghijklmno"}, "abcdefghijklmno1"},
		{"abcdefghijklmno", numbers("abcdefghijklmno", 9), "abcdefghijklmn10"},
		{"abcdefghijklmnop", []string{"abcdefghijklmnop"}, "abcdefghijklmno1"},
		{"abcdefghijklmnop", numbers("abcdefghijklmnop", 99), "abcdefghijklm100"},
		{"abcdefghijklmnopqrst", nil, "abcdefghijklmnopqrst"},
		{"abcdefghijklmnopqrst", []string{"abcdefghijklmnopqrst"}, "abcdefghijklmno1"},
		{"abcdefghijklmn1op", numbers("abcdefghijklmn1op", 11), "abcdefghijklmn20"}, // the numbers 2 and 12 lead to the same name,
		{"éééééééé", []string{"éééééééé"}, "ééééééé\xc31"},
		{"x y", []string{"x y"}, "x y1"},
	} {
		if got := Fresh(c.want, c.used); got != c.name {
			t.Errorf("Fresh(%q, %d names) = %q, want %q", c.want, len(c.used), got, c.name)
		}
	}
}

func TestCalls(t *testing.T) { // P11.9
	for _, c := range []struct {
		texts []string
		want  []string
	}{
		{nil, nil},
		{[]string{"fun f() = g() + g() fun g() = 1"}, []string{"a.f a.g"}},
		{[]string{"fun f() = f() fun b() = a.f() + b.f() + b.a() fun a() = c.f() + b() + size(1)", "fun f() = a.b() fun a() = f(f())"},
			[]string{"a.a a.b", "a.b a.f", "a.b b.a", "a.b b.f", "a.f a.f", "b.a b.f", "b.f a.b"}},
		{[]string{"fun f(x = f(1)) = 1 table t { } key() check f(1) fun size() = a.size() + size(1) proc p(x = f(1)) = insert t x"}, []string{"a.size a.size"}},
		{[]string{"proc p() = insert t f(); delete u as x where g(); update v as x where h() set i() proc q() = insert p p() fun f() = 1 fun g() = 1 fun h() = 1 fun i() = 1"},
			[]string{"a.p a.f", "a.p a.g", "a.p a.h", "a.p a.i"}},
		{[]string{"fun f() = 1 fun f() = g() fun g() = [ f() | x <- h() ] proc h() = insert t let x = { a = g() } in x"}, []string{"a.f a.g", "a.g a.f", "a.h a.g"}},
		{[]string{"fun f(g) = g fun g() = match 1 { A(f) -> f, B -> { f with g = A(a.f()) } } type T = A"}, []string{"a.g a.f"}},
	} {
		x := newExample(c.texts...)
		checkList(t, x, strings.Join(x.texts, "\n"), Calls(x.ms), showCall, c.want...)
	}
}

func TestExamples(t *testing.T) { // the examples of the chapter
	x := newExample("fun f(«x»x) = «y»let y = x in [z | z <- t«z», «here»z == y]")
	uses := showAll(Uses(x.ms), showUse)
	for _, want := range []string{" x = param a:f.x@«x»", " y = local a:f.y@«y»", " z = local a:f.z@«z»", " t = ?"} {
		if !strings.Contains(uses, x.fill(want)) {
			t.Errorf("no %s in %s", x.fill(want), uses)
		}
	}
	checkList(t, x, "Visible", Visible(x.ms, "a", x.at("here"))[:3], func(s Symbol) string { return s.Name }, "z", "y", "x")
}
