package ast

import (
	"math"
	"strings"
	"testing"

	"schemalens/api"
)

func TestCanonicalModules(t *testing.T) { // P10.7
	for s, want := range map[string]string{
		"":                            "",
		"# c":                         "",
		"type T=A":                    "type T = A\n",
		"type Int=A|B({b:T,a:Int})|A": "type Int = A | B({ a: Int, b: T }) | A\n",
		"table t{}key(a)":             "table t {} key(a)\n",
		"table t{b:Int,a:[T],b:{}}key(b,a,b)ref b to u ref a to t check(b<1)": "table t { b: Int, a: [T], b: {} } key(b, a, b) ref b to u ref a to t check b < 1\n",
		"table t{}key(a)check true":                 "table t {} key(a)\n",
		"table t{}key(a)check(false)":               "table t {} key(a) check false\n",
		"table t{}key(a)check 1":                    "table t {} key(a) check 1\n",
		"table t{}key(a)check not true":             "table t {} key(a) check not true\n",
		"fun f(x)=( x.a )*(1+2)":                    "fun f(x) = x.a * (1 + 2)\n",
		"fun f():Int=(let x=1 in x)":                "fun f(): Int = let x = 1 in x\n",
		"fun f(x,y:[T],z=(a or b),x:{}={}):{}=?":    "fun f(x, y: [T], z = a or b, x: {} = {}): {} = ?\n",
		"proc p()=insert t({a=1})":                  "proc p() = insert t { a = 1 }\n",
		"proc p(x:Int)=delete t as x where(x.a==1)": "proc p(x: Int) = delete t as x where x.a == 1\n",
		"proc p()=update t as x where true set(x)":  "proc p() = update t as x where true set x\n",
		"proc p()=insert t x;insert u let x=1 in x;delete t as y where if a then b else c": "proc p() = insert t x; insert u let x = 1 in x; delete t as y where if a then b else c\n",
		"fun f()=1 type T=A proc p()=insert t x table t{}key(a)fun f()=2":                  "fun f() = 1\ntype T = A\nproc p() = insert t x\ntable t {} key(a)\nfun f() = 2\n",
	} {
		m := lower(s)
		if got, err := Print(m); got != want || err != api.OK {
			t.Errorf("Print of %q returns %q and %v, want %q", s, got, err, want)
		}
		m.Name = "no word"
		if got, err := Print(m); got != want || err != api.OK {
			t.Errorf("with another name, Print of %q returns %q and %v, want %q", s, got, err, want)
		}
		if again := lower(want); !Equal(again, lower(s)) {
			t.Errorf("%q is another module than %q", want, s)
		}
	}
}

// A spoiling makes an error of a declaration; its rank is the place of what is wrong in
// the order in which Print examines the declaration.
type spoiling struct {
	rank  int
	err   api.Errno
	spoil func(d *api.Decl)
}

// whole returns spoilings with the rank 0: what is looked at before all parts. The fields
// that the kind uses are left out.
func whole(used string) []spoiling {
	type change = func(d *api.Decl)
	check := func(e api.Expr) change { return func(d *api.Decl) { d.Table.Check = e } }
	all := map[string][]change{
		"Kind": {
			func(d *api.Decl) { d.Kind = -1 },
			func(d *api.Decl) { d.Kind = 4 },
			func(d *api.Decl) { d.Kind = math.MaxInt },
		},
		"Sum": {
			func(d *api.Decl) { d.Sum.Name = "T" },
			func(d *api.Decl) { d.Sum.Ctors = []api.Ctor{{}} },
		},
		"Table": {
			func(d *api.Decl) { d.Table.Name = "t" },
			func(d *api.Decl) { d.Table.Columns = []api.Column{{}} },
			func(d *api.Decl) { d.Table.Key = []string{""} },
			func(d *api.Decl) { d.Table.Refs = []api.Ref{{}} },
			check(api.Expr{Kind: api.EBool, N: 1}),
			check(api.Expr{N: 1}),
			check(api.Expr{Name: "x"}),
			check(api.Expr{S: "x"}),
			check(api.Expr{Names: []string{""}}),
			check(api.Expr{Binds: []string{""}}),
			check(api.Expr{Kids: []api.Expr{{}}}),
		},
		"Params": {func(d *api.Decl) { d.Params = []api.Param{{}} }},
		"Type": {
			func(d *api.Decl) { d.Typed = true },
			func(d *api.Decl) { d.Typed, d.Type = true, api.Type{Kind: api.TyBool} },
			func(d *api.Decl) { d.Type.Kind = api.TyBool },
			func(d *api.Decl) { d.Type.Name = "x" },
			func(d *api.Decl) { d.Type.N = 1 },
			func(d *api.Decl) { d.Type.Names = []string{""} },
			func(d *api.Decl) { d.Type.Kids = []api.Type{{}} },
		},
		"Body":  {func(d *api.Decl) { d.Body = varX }},
		"Stmts": {func(d *api.Decl) { d.Stmts = []api.Stmt{{}} }},
	}
	var l []spoiling
	for field, changes := range all {
		if !strings.Contains(used, field) {
			for _, f := range changes {
				l = append(l, spoiling{0, api.ErrArg, f})
			}
		}
	}
	return l
}

// badTypes and badExprs are types and expressions with their errors.
func badTypes() map[api.Errno]api.Type {
	deep := api.Type{}
	for range api.MaxDepth {
		deep = listOf(deep)
	}
	return map[api.Errno]api.Type{
		api.ErrType: {Kind: api.TyVar}, api.ErrArg: {N: 1}, api.ErrName: {Kind: api.TySum, Name: "t"}, api.ErrLimit: deep,
	}
}

func badExprs() map[api.Errno]api.Expr {
	return map[api.Errno]api.Expr{
		api.ErrArg: {Kind: api.EBad}, api.ErrName: {Kind: api.EVar, Name: "X"}, api.ErrLimit: {N: -1},
	}
}

// spoilings of parts, which have their ranks in the order of the source.
type spoilings struct {
	rank int
	all  []spoiling
}

func (l *spoilings) name(set func(d *api.Decl, s string), bad ...string) {
	l.rank++
	for _, s := range bad {
		l.all = append(l.all, spoiling{l.rank, api.ErrName, func(d *api.Decl) { set(d, s) }})
	}
}

func (l *spoilings) typ(set func(d *api.Decl, t api.Type)) {
	l.rank++
	for err, x := range badTypes() {
		l.all = append(l.all, spoiling{l.rank, err, func(d *api.Decl) { set(d, x) }})
	}
}

func (l *spoilings) expr(set func(d *api.Decl, e api.Expr)) {
	l.rank++
	for err, e := range badExprs() {
		l.all = append(l.all, spoiling{l.rank, err, func(d *api.Decl) { set(d, e) }})
	}
}

// must adds what is wrong with a declaration or a statement as a whole.
func (l *spoilings) must(rank int, changes ...func(d *api.Decl)) {
	for _, f := range changes {
		l.all = append(l.all, spoiling{rank, api.ErrArg, f})
	}
}

// checkSpoilings checks each spoiling, and each two of them with different ranks.
func checkSpoilings(t *testing.T, source string, l []spoiling) {
	t.Helper()
	made := func(spoil ...spoiling) (string, api.Errno) {
		m := lower(source)
		// What comes first in the order can remove what comes later.
		for i := len(spoil) - 1; i >= 0; i-- {
			spoil[i].spoil(&m.Decls[0])
		}
		return Print(m)
	}
	if _, err := made(); err != api.OK {
		t.Fatalf("Print returns %v for %q", err, source)
	}
	for i, x := range l {
		if s, err := made(x); s != "" || err != x.err {
			t.Errorf("%q, spoiling %d of rank %d: Print returns %q and %v, want %v", source, i, x.rank, s, err, x.err)
		}
		for j, y := range l {
			if x.rank >= y.rank {
				continue
			}
			if s, err := made(x, y); s != "" || err != x.err {
				t.Errorf("%q, spoilings %d and %d of ranks %d and %d: Print returns %q and %v, want %v", source, i, j, x.rank, y.rank, s, err, x.err)
			}
		}
	}
}

func TestErrorsOfTypeDeclarations(t *testing.T) { // P10.7
	l := &spoilings{all: whole("Sum")}
	l.must(0,
		func(d *api.Decl) { d.Sum.Name = "U" },
		func(d *api.Decl) { d.Sum.Ctors = nil },
		func(d *api.Decl) { d.Sum.Ctors[0].Arg = api.Type{Kind: api.TyText} },
		func(d *api.Decl) { d.Sum.Ctors[0].Arg.N = 1 },
		func(d *api.Decl) { d.Sum.Ctors = append(d.Sum.Ctors, api.Ctor{Name: "D", Arg: api.Type{Name: "D"}}) },
	)
	l.name(func(d *api.Decl, s string) { d.Name, d.Sum.Name = s, s }, "", "t", "T_", "A"+sixteen)
	l.name(func(d *api.Decl, s string) { d.Sum.Ctors[0].Name = s }, "", "a", "type", "A"+sixteen)
	l.name(func(d *api.Decl, s string) { d.Sum.Ctors[1].Name = s }, "b")
	l.typ(func(d *api.Decl, x api.Type) { d.Sum.Ctors[1].Arg = x })
	l.name(func(d *api.Decl, s string) { d.Sum.Ctors[2].Name = s }, "", "T_")
	l.typ(func(d *api.Decl, x api.Type) { d.Sum.Ctors[2].Arg = x })
	checkSpoilings(t, "type T = A | B(Int) | C([Text])", l.all)
}

func TestErrorsOfTableDeclarations(t *testing.T) { // P10.7
	l := &spoilings{all: whole("Table")}
	l.must(0,
		func(d *api.Decl) { d.Table.Name = "u" },
		func(d *api.Decl) { d.Table.Key = nil },
	)
	l.name(func(d *api.Decl, s string) { d.Name, d.Table.Name = s, s }, "", "X", "let", "x y", seventeen)
	l.name(func(d *api.Decl, s string) { d.Table.Columns[0].Name = s }, "", "A", "to")
	l.typ(func(d *api.Decl, x api.Type) { d.Table.Columns[0].Type = x })
	l.name(func(d *api.Decl, s string) { d.Table.Columns[1].Name = s }, seventeen)
	l.typ(func(d *api.Decl, x api.Type) { d.Table.Columns[1].Type = x })
	l.name(func(d *api.Decl, s string) { d.Table.Key[0] = s }, "", "A")
	l.name(func(d *api.Decl, s string) { d.Table.Key[1] = s }, "key", " b")
	l.name(func(d *api.Decl, s string) { d.Table.Refs[0].Column = s }, "", "A")
	l.name(func(d *api.Decl, s string) { d.Table.Refs[0].Table = s }, "", "T")
	l.name(func(d *api.Decl, s string) { d.Table.Refs[1].Column = s }, "ref")
	l.name(func(d *api.Decl, s string) { d.Table.Refs[1].Table = s }, "1")
	l.expr(func(d *api.Decl, e api.Expr) { d.Table.Check = e })
	l.must(l.rank, func(d *api.Decl) { d.Table.Check = api.Expr{Kind: api.EBool, N: 1, S: "x"} })
	checkSpoilings(t, "table t { a: Int, b: Text } key(a, b) ref a to u ref b to v check a < 1", l.all)
	for _, spoil := range []func(d *api.Decl){
		func(d *api.Decl) { d.Name = "" },
		func(d *api.Decl) { d.Table.Name = "" },
	} {
		m := lower("table t {} key(a)")
		spoil(&m.Decls[0])
		if s, err := Print(m); s != "" || err != api.ErrArg {
			t.Errorf("Print returns %q and %v", s, err)
		}
	}
}

func TestErrorsOfFunctions(t *testing.T) { // P10.7
	l := &spoilings{all: whole("Params Type Body")}
	l.must(0,
		func(d *api.Decl) { d.Typed = false },
		func(d *api.Decl) { d.Params[0].Type = api.Type{Kind: api.TyText} },
		func(d *api.Decl) { d.Params[0].Type.Names = []string{""} },
		func(d *api.Decl) { d.Params[0].Default = varX },
		func(d *api.Decl) { d.Params[0].Default.N = 1 },
		func(d *api.Decl) { d.Params[1].Default = number },
		func(d *api.Decl) { d.Params[2].Type.N = 1 },
		func(d *api.Decl) { d.Params[3].Typed = false },
		func(d *api.Decl) { d.Params[3].Has = false },
	)
	l.name(func(d *api.Decl, s string) { d.Name = s }, "", "X", "let", "x y", seventeen)
	l.name(func(d *api.Decl, s string) { d.Params[0].Name = s }, "", "X", "in")
	l.name(func(d *api.Decl, s string) { d.Params[1].Name = s }, seventeen)
	l.typ(func(d *api.Decl, x api.Type) { d.Params[1].Type = x })
	l.name(func(d *api.Decl, s string) { d.Params[2].Name = s }, "")
	l.expr(func(d *api.Decl, e api.Expr) { d.Params[2].Default = e })
	l.name(func(d *api.Decl, s string) { d.Params[3].Name = s }, "A")
	l.typ(func(d *api.Decl, x api.Type) { d.Params[3].Type = x })
	l.expr(func(d *api.Decl, e api.Expr) { d.Params[3].Default = e })
	l.typ(func(d *api.Decl, x api.Type) { d.Type = x })
	l.expr(func(d *api.Decl, e api.Expr) { d.Body = e })
	checkSpoilings(t, "fun f(x, y: Int, z = 1, w: Bool = true): Text = x", l.all)
}

func TestErrorsOfProcedures(t *testing.T) { // P10.7
	l := &spoilings{all: whole("Params Stmts")}
	l.must(0,
		func(d *api.Decl) { d.Stmts = nil },
		func(d *api.Decl) { d.Params[0].Default = varX },
		func(d *api.Decl) { d.Params[0].Type.N = 1 },
	)
	l.name(func(d *api.Decl, s string) { d.Name = s }, "", "X", "let", "x y", seventeen)
	l.name(func(d *api.Decl, s string) { d.Params[0].Name = s }, "", "X")
	stmt := func(i int, f func(s *api.Stmt)) func(d *api.Decl) {
		return func(d *api.Decl) { f(&d.Stmts[i]) }
	}
	name := func(i int, f func(s *api.Stmt, name string)) func(d *api.Decl, name string) {
		return func(d *api.Decl, name string) { stmt(i, func(s *api.Stmt) { f(s, name) })(d) }
	}
	expr := func(i int, f func(s *api.Stmt, e api.Expr)) func(d *api.Decl, e api.Expr) {
		return func(d *api.Decl, e api.Expr) { stmt(i, func(s *api.Stmt) { f(s, e) })(d) }
	}
	table := func(s *api.Stmt, name string) { s.Table = name }
	bind := func(s *api.Stmt, name string) { s.Bind = name }
	cond := func(s *api.Stmt, e api.Expr) { s.Cond = e }
	value := func(s *api.Stmt, e api.Expr) { s.Value = e }

	l.rank++
	l.must(l.rank,
		stmt(0, func(s *api.Stmt) { s.Kind = -1 }),
		stmt(0, func(s *api.Stmt) { s.Kind = 3 }),
		stmt(0, func(s *api.Stmt) { s.Bind = "x" }),
		stmt(0, func(s *api.Stmt) { s.Cond = varX }),
		stmt(0, func(s *api.Stmt) { s.Cond = api.Expr{N: 1} }),
	)
	l.name(name(0, table), "", "T", "as")
	l.expr(expr(0, value))
	l.rank++
	l.must(l.rank,
		stmt(1, func(s *api.Stmt) { s.Kind = math.MinInt }),
		stmt(1, func(s *api.Stmt) { s.Value = varX }),
		stmt(1, func(s *api.Stmt) { s.Value.Kids = []api.Expr{{}} }),
	)
	l.name(name(1, table), "", "T")
	l.name(name(1, bind), "", "X")
	l.expr(expr(1, cond))
	l.rank++
	l.must(l.rank, stmt(2, func(s *api.Stmt) { s.Kind = 7 }))
	l.name(name(2, table), "", "T")
	l.name(name(2, bind), "", "where")
	l.expr(expr(2, cond))
	l.expr(expr(2, value))
	l.rank++
	l.must(l.rank, stmt(3, func(s *api.Stmt) { s.Bind = "X" }))
	checkSpoilings(t, "proc p(x) = insert t x; delete t as y where y; update u as z where z set z; insert t x", l.all)
}

func TestFirstDeclarationWithAnError(t *testing.T) { // P10.7
	spoiled := map[api.Errno]string{api.ErrType: "fun f(): T = 1", api.ErrArg: "table t {} key(a)", api.ErrName: "type T = A"}
	spoil := map[api.Errno]func(d *api.Decl){
		api.ErrType: func(d *api.Decl) { d.Type.Kind = api.TyVar },
		api.ErrArg:  func(d *api.Decl) { d.Table.Key = nil },
		api.ErrName: func(d *api.Decl) { d.Sum.Ctors[0].Name = "" },
	}
	for err, first := range spoiled {
		for other, second := range spoiled {
			m := lower("fun g() = 1\n" + first + "\n" + second)
			spoil[other](&m.Decls[2])
			if s, got := Print(m); s != "" || got != other {
				t.Errorf("Print returns %q and %v, want %v", s, got, other)
			}
			spoil[err](&m.Decls[1])
			if s, got := Print(m); s != "" || got != err {
				t.Errorf("Print returns %q and %v, want %v", s, got, err)
			}
		}
	}
}

func TestPositionsDoNotMatter(t *testing.T) { // P10.4, P10.7
	placed := api.Expr{At: 3, End: -4}
	for _, s := range []string{"type T = A", "table t {} key(a)", "table t {} key(a) check 1", "fun f(x) = 1", "proc p(x) = insert t 1", "proc p() = delete t as x where 1"} {
		m := lower(s)
		d := &m.Decls[0]
		d.NameAt, d.At, d.End = -1, -2, 99
		d.Body.At, d.Body.End = 7, 7
		d.Table.Check.At, d.Table.Check.End = 8, 8
		for i := range d.Params {
			d.Params[i].Default, d.Params[i].At, d.Params[i].End = placed, 5, 6
		}
		for i := range d.Stmts {
			if d.Stmts[i].Kind == api.SInsert {
				d.Stmts[i].Cond = placed
			} else {
				d.Stmts[i].Value = placed
			}
			d.Stmts[i].At = -5
		}
		if got, err := Print(m); got != s+"\n" || err != api.OK {
			t.Errorf("Print of %q with other positions returns %q and %v", s, got, err)
		}
	}
}

func TestNestingOfPrintedModules(t *testing.T) { // P10.7
	e, deepType := makeC, api.Type{}
	for range api.MaxDepth - 1 {
		e, deepType = call("f", e), listOf(deepType)
	}
	const source = "type T = A(Int) table t {a: Int} key(a) check 1 fun f(x: Int = 1): Int = 1 proc p() = update t as x where 1 set 1"
	places := []func(m *api.Module) *api.Expr{
		func(m *api.Module) *api.Expr { return &m.Decls[1].Table.Check },
		func(m *api.Module) *api.Expr { return &m.Decls[2].Params[0].Default },
		func(m *api.Module) *api.Expr { return &m.Decls[2].Body },
		func(m *api.Module) *api.Expr { return &m.Decls[3].Stmts[0].Cond },
		func(m *api.Module) *api.Expr { return &m.Decls[3].Stmts[0].Value },
	}
	types := []func(m *api.Module) *api.Type{
		func(m *api.Module) *api.Type { return &m.Decls[0].Sum.Ctors[0].Arg },
		func(m *api.Module) *api.Type { return &m.Decls[1].Table.Columns[0].Type },
		func(m *api.Module) *api.Type { return &m.Decls[2].Params[0].Type },
		func(m *api.Module) *api.Type { return &m.Decls[2].Type },
	}
	full := lower(source)
	for _, at := range places {
		*at(&full) = e
		m := lower(source)
		*at(&m) = call("f", e)
		if s, err := Print(m); s != "" || err != api.ErrLimit {
			t.Errorf("Print returns %.200q and %v", s, err)
		}
	}
	for _, at := range types {
		*at(&full) = deepType
		m := lower(source)
		*at(&m) = listOf(deepType)
		if s, err := Print(m); s != "" || err != api.ErrLimit {
			t.Errorf("Print returns %.200q and %v", s, err)
		}
	}
	s, err := Print(full)
	if err != api.OK || !Equal(lower(s), full) {
		t.Errorf("Print returns %.200q and %v", s, err)
	}
}
