package names

import (
	"slices"
	"testing"

	"schemalens/api"
)

func TestDeclaredTwice(t *testing.T) { // P11.3
	for _, c := range []struct {
		texts []string
		want  []string
	}{
		{[]string{"type T = A type U = B type «T»T«T2» = C"}, []string{"a «T»-«T2» twice T"}},
		{[]string{"type T = A", "type «T»T«T2» = B"}, []string{"b «T»-«T2» twice T"}},
		{[]string{"type «I»Int«I2» = A type «X»Text«X2» = B type «B»Bool«B2» = C type Ints = D"},
			[]string{"a «I»-«I2» twice Int", "a «X»-«X2» twice Text", "a «B»-«B2» twice Bool"}},
		{[]string{"type Int = A"}, []string{"a 5-8 twice Int"}},
		{[]string{"type «T»T«T2» = A | B | A | A"}, []string{"a «T»-«T2» twice A"}},
		{[]string{"type T = A type «U»U«U2» = B | A", "type «V»V«V2» = B | C"}, []string{"a «U»-«U2» twice A", "b «V»-«V2» twice B"}},
		{[]string{"table t { } key(t) fun t() = 1 proc u() = insert t t table «t»t«t2» { t: Int } key(t)"},
			[]string{"a 6-7 unknown t", "a «t»-«t2» twice t"}},
		{[]string{"table t { } key()", "table «t»t«t2» { } key()"}, []string{"b «t»-«t2» twice t"}},
		{[]string{"table «t»t«t2» { a: Int, b: Int, a: Text, b: Int, a: Int } key(a)", "table u { a: Int } key(a)"},
			[]string{"a «t»-«t2» twice a", "a «t»-«t2» twice b"}},
		{[]string{"fun f() = 1 proc «f»f«f2»() = 2 fun «g»f«g2»() = 3 proc g() = 1 fun «h»g«h2»() = 1"},
			[]string{"a «f»-«f2» twice f", "a «g»-«g2» twice f", "a «h»-«h2» twice g"}},
		{[]string{"fun f() = 1", "fun f() = 1 proc g() = 1", "fun g() = 1"}, nil},
		{[]string{"fun «a»sort«b»() = 1 proc «c»distinct«d»() = 1 fun «e»size«f»() = 1 fun «g»sum«h»() = 1 fun «i»any«j»() = 1 proc «k»all«l»() = 1"},
			[]string{"a «a»-«b» twice sort", "a «c»-«d» twice distinct", "a «e»-«f» twice size",
				"a «g»-«h» twice sum", "a «i»-«j» twice any", "a «k»-«l» twice all"}},
		{[]string{"fun «a»any«b»() = 1 fun «c»any«d»() = 1"}, []string{"a «a»-«b» twice any", "a «c»-«d» twice any"}},
		{[]string{"fun f(x, y, «x»x«x2»: Int, «x3»x«x4») = x proc p(x, «y»x«y2») = delete t as x where x table t { } key()"},
			[]string{"a «x»-«x2» twice x", "a «x3»-«x4» twice x", "a «y»-«y2» twice x"}},
		{[]string{"fun any1(any, sort) = let any = any in [x | x <- sort, x <- x] type Text1 = Int table size { sum: Int, all: Int } key(sum)"}, nil},
		{[]string{"fun f(x) = «r»{ a = 1, b = «s»{ x with c = 1, a = x, c = 2 }«s2», a = 2, b = 3, a = 3 }«r2»"},
			[]string{"a «r»-«r2» twice a", "a «r»-«r2» twice b", "a «s»-«s2» twice c"}},
		{[]string{"table t { c: { a: Int, a: Text } } key(c) check c == «r»{ a = 1, a = 2 }«r2» fun f(x = «s»{ a = 1, a = 1 }«s2») = { }"},
			[]string{"a «r»-«r2» twice a", "a «s»-«s2» twice a"}},
	} {
		x := newExample(c.texts...)
		checkList(t, x, showAll(x.texts, func(s string) string { return s }), Problems(x.ms), showProblem, c.want...)
	}
}

func TestUnknown(t *testing.T) { // P11.3
	for _, c := range []struct {
		texts []string
		want  []string
	}{
		{nil, nil},
		{[]string{"fun f(x) = x", ""}, nil},
		{[]string{"fun f(x) = «y»y«y2»"}, []string{"a «y»-«y2» unknown y"}},
		{[]string{"fun f(x) = «y»y«y2»(«z»z«z2»)«e»"}, []string{"a «y»-«e» unknown y", "a «z»-«z2» unknown z"}},
		{[]string{"fun f() = «p»p()«p2» + «b»b.g()«b2» + «b3»b.f()«b4» + c.f() + «d»d.f()«d2» proc p() = 1", "fun f1() = 1", "fun f() = 1"},
			[]string{"a «p»-«p2» unknown p", "a «b»-«b2» unknown b.g", "a «b3»-«b4» unknown b.f", "a «d»-«d2» unknown d.f"}},
		{[]string{"fun f() = sort(distinct(size(sum(any(all(1)))))) + «s»a.size(1)«s2»"}, []string{"a «s»-«s2» unknown a.size"}},
		{[]string{"fun f() = A(«B»B«B2»)", "type T = A"}, []string{"a «B»-«B2» unknown B"}},
		{[]string{"fun f(x) = «m»match x { A -> 1, B -> 2, C(c) -> «x»B«x2» }«m2» type T = A | C(Int)"},
			[]string{"a «m»-«m2» unknown B", "a «x»-«x2» unknown B"}},
		{[]string{"fun «f»f«f2»(«x»x: T«x2», «y»y: [{ a: T, b: U }]«y2»): V = 1 type «W»W«W2» = A(X) table «t»t«t2» { a: Y } key(a)", "type U = Z"},
			[]string{"a «f»-«f2» unknown V", "a «x»-«x2» unknown T", "a «y»-«y2» unknown T", "a «W»-«W2» unknown X", "a «t»-«t2» unknown Y"}},
		{[]string{"proc p() = «i»insert t u«i2»; «d»delete u as x where x«d2»; «s»update v as x where x set x«s2»", "table v { } key()"},
			[]string{"a «i»-«i2» unknown t", "a 20-21 unknown u", "a «d»-«d2» unknown u"}},
		{[]string{"table «t»t«t2» { a: Int } key(b, a) ref c to u ref a to t check «d»d«d2» == a"},
			[]string{"a «t»-«t2» unknown b", "a «t»-«t2» unknown c", "a «t»-«t2» unknown u", "a «d»-«d2» unknown d"}},
		{[]string{"table u { a: Int } key(a) table «t»t«t2» { b: Int } key(a)"}, []string{"a «t»-«t2» unknown a"}},
		{[]string{"fun f(x, y = «x»x«x2») = let z = «z»z«z2» in z"}, []string{"a «x»-«x2» unknown x", "a «z»-«z2» unknown z"}},
		{[]string{"fun f(x) = [x | y <- «y»y«y2», y, y <- «z»z«z2», z <- y, z] ++ «z3»z«z4»"},
			[]string{"a «y»-«y2» unknown y", "a «z»-«z2» unknown z", "a «z3»-«z4» unknown z"}},
		{[]string{"fun f(x) = match «y»y«y2» { A(y) -> y, B -> «y3»y«y4» } type T = A | B"},
			[]string{"a «y»-«y2» unknown y", "a «y3»-«y4» unknown y"}},
		{[]string{"fun f() = « x »x« x2 ».a proc p(y) = 1 fun g() = « y »y« y2 »"}, []string{"a « x »-« x2 » unknown x", "a « y »-« y2 » unknown y"}},
	} {
		x := newExample(c.texts...)
		checkList(t, x, showAll(x.texts, func(s string) string { return s }), Problems(x.ms), showProblem, c.want...)
	}
}

func TestOrderOfProblems(t *testing.T) { // P11.3
	name := func(at, end int, names ...string) api.Expr {
		e := api.Expr{Kind: api.EList}
		for _, n := range names {
			e.Kids = append(e.Kids, api.Expr{Kind: api.EVar, Name: n, At: at, End: end})
		}
		return e
	}
	record := api.Expr{Kind: api.ERecord, Names: []string{"b", "a", "b", "a"}, Kids: make([]api.Expr, 4), At: 5, End: 7}
	parts := []api.Expr{name(5, 8, "x"), name(5, 7, "y", "x"), record, name(5, 7, "y", "x", "é"), name(4, 9, "z"), name(-1, 3, "z")}
	f := func(e api.Expr) api.Decl { return api.Decl{Kind: api.DFun, Body: e} }
	list := api.Expr{Kind: api.EList, Kids: parts}
	backwards := api.Expr{Kind: api.EList, Kids: slices.Clone(parts)}
	slices.Reverse(backwards.Kids)
	want := []string{
		"A -1-3 unknown z", "A 4-9 unknown z",
		"A 5-7 twice a", "A 5-7 twice b", "A 5-7 unknown x", "A 5-7 unknown y", "A 5-7 unknown é", "A 5-8 unknown x",
		"a 0-0 unknown x", "b 0-0 unknown y",
	}
	x := newExample()
	for _, ms := range [][]api.Module{
		{{Name: "b", Decls: []api.Decl{f(name(0, 0, "y"))}}, {Name: "A", Decls: []api.Decl{f(list), f(record)}}, {Name: "a", Decls: []api.Decl{f(name(0, 0, "x", "x"))}}},
		{{Name: "A", Decls: []api.Decl{f(backwards)}}, {Name: "a", Decls: []api.Decl{f(name(0, 0, "x"))}}, {Name: "b", Decls: []api.Decl{f(name(0, 0, "y")), f(name(0, 0, "y"))}}},
	} {
		checkList(t, x, "Problems", Problems(ms), showProblem, want...)
	}
}
