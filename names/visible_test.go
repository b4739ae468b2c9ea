package names

import (
	"strings"
	"testing"
)

func TestVariablesAtAnOffset(t *testing.T) { // P11.4, P11.5
	for _, c := range []struct {
		text string            // one module, in which the only global symbol is that of the declaration
		want map[string]string // the names of the variables at the marks
	}{
		{"«0»fun f(x, «p»y = let z = 1 in «d»z): Int «1»=«2» «b»x + «c»y«e» «3»fun g(v) = «v»v«w»",
			map[string]string{"0": "", "p": "", "d": "", "1": "", "2": "", "b": "x y", "c": "x y", "e": "x y", "3": "", "v": "v", "w": "v"}},
		{"fun f(x, x, y) = «1»x", map[string]string{"1": "x y"}},
		{"fun f(x) = «1»let «2»y = «3»x«4» in «5»[«6»z«7» | «8»z «9»<- «a»t«b», z == «c»y«d»]«e» fun g() = 1",
			map[string]string{"1": "x", "2": "x", "3": "x", "4": "x", "5": "y x", "6": "z y x", "7": "z y x", "8": "y x", "9": "y x", "a": "y x", "b": "y x", "c": "z y x", "d": "z y x", "e": "y x"}},
		{"fun f(x) = [ «r»x | «a»x <- «b»x, y <- «c»x«d», «e»y, x <- «f»x, z <- «g»x ]«h»",
			map[string]string{"r": "z x y", "a": "x", "b": "x", "c": "x", "d": "x", "e": "y x", "f": "y x", "g": "x y", "h": "x"}},
		{"fun f(x) = match «1»x { «2»A -> «3»x, B(y) «4»-> «5»[«6»y], C(x) -> «7»x«8»}«9»",
			map[string]string{"1": "x", "2": "x", "3": "x", "4": "x", "5": "y x", "6": "y x", "7": "x", "8": "x", "9": "x"}},
		{"«0»proc p(x, y) = «1»insert t «2»x«3»; «4»delete t as «5»z where «6»z«7»;«8» update t as y where «9»y«a» set «b»x«c» «d»fun f() = 1",
			map[string]string{"0": "", "1": "", "2": "x y", "3": "x y", "4": "", "5": "", "6": "z x y", "7": "z x y", "8": "", "9": "y x", "a": "y x", "b": "y x", "c": "y x", "d": ""}},
		{"table t { «0»b: Int, a: Int, b: Int } key(«1»a) check «2»let b = «3»b in «4»a«5» «6»fun f() = «7»1",
			map[string]string{"0": "", "1": "", "2": "b a", "3": "b a", "4": "b a", "5": "b a", "6": "", "7": ""}},
		{"table t { a: Int } key(«0»a)«1»", map[string]string{"0": "", "1": ""}},
		{"type «0»T = «1»A({ a: Int })", map[string]string{"0": "", "1": ""}},
		{"fun f(x) = { a = «1»1, b = let y = { «2»} in «3»?«4» }", map[string]string{"1": "x", "2": "x", "3": "y x", "4": "y x"}},
		{"fun f(x) = («0» «1»x«2» «3») «4»fun g() = 1", map[string]string{"0": "", "1": "x", "2": "x", "3": "", "4": ""}},
		{"fun f(x) = («0» x ) «1»+ 1", map[string]string{"0": "x", "1": "x"}},
		{"fun f(x) = let y = ( x ) in «0» ( «1»( «2»y ) ) «3» fun g() = «4»1", map[string]string{"0": "x", "1": "x", "2": "y x", "3": "", "4": ""}},
	} {
		x := newExample(c.text)
		for mark, want := range c.want {
			var got []string
			for _, s := range Visible(x.ms, "a", x.at(mark)) {
				switch s.Kind {
				case SymParam, SymColumn, SymLocal:
					got = append(got, s.Name)
				}
			}
			if strings.Join(got, " ") != want {
				t.Errorf("%s at %s: %v, want %s", c.text, mark, got, want)
			}
		}
	}
}

func TestVisible(t *testing.T) { // P11.4
	x := newExample(
		"type «T»T = D | A fun «ab»b() = 1 fun «aa»a() = 1 table «u»u { } key() table «t»t { i: Int } key(i) check «0»i < 1",
		"fun «bd»d(«x»x, «p»t) = «l»let v = 1 in «1»x proc p() = 1 fun «bb»b() = «2»1 table «v»v { } key() table «s»s { } key()",
		"fun «cc»c() = 1 fun «ca»a() = 2 fun a() = 3 table t { } key() type «U»U = B | D | C({ x: T })\n"+
			"proc q(«y»y) = insert y «3»y fun «cq»q() = 4 fun «cs»size() = 5",
	)
	tables := "table b:s@«s»; table a:t@«t»; table a:u@«u»; table b:v@«v»; "
	a := "fun a:a@«aa»; fun a:b@«ab»; "
	b := "fun b:b@«bb»; fun b:d@«bd»; "
	c := "fun c:a@«ca»; fun c:c@«cc»; fun c:q@«cq»; fun c:size@«cs»; "
	ctors := "ctor a:T.A@«T»; ctor c:U.B@«U»; ctor c:U.C@«U»; ctor a:T.D@«T»"
	for _, k := range []struct {
		doc    string
		offset int
		want   string
	}{
		{"a", x.at("0"), "column a:t.i@«t»; " + tables + a + b + c},
		{"a", 0, tables + a + b + c},
		{"b", x.at("1"), "local b:d.v@«l»; param b:d.x@«x»; param b:d.t@«p»; table b:s@«s»; table a:u@«u»; " + b + a + c},
		{"b", x.at("2"), tables + b + a + c},
		{"c", x.at("3"), "param c:q.y@«y»; " + tables + c + a + b},
		{"c", -1, tables + c + a + b},
		{"c", 1 << 40, tables + c + a + b},
		{"d", x.at("1"), tables + a + b + c},
		{"", x.at("1"), tables + a + b + c},
	} {
		want := strings.Split(k.want+ctors, "; ")
		checkList(t, x, "Visible in "+k.doc, Visible(x.ms, k.doc, k.offset), showSymbol, want...)
	}
	if l := Visible(nil, "a", 0); len(l) != 0 {
		t.Error(l)
	}
}
