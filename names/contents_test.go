package names

import (
	"testing"

	"schemalens/api"
)

func variable(name string, at, end int) api.Expr {
	return api.Expr{Kind: api.EVar, Name: name, At: at, End: end}
}

func list(kids ...api.Expr) api.Expr {
	return api.Expr{Kind: api.EList, Kids: kids}
}

func sum(name string, kids ...api.Type) api.Type {
	return api.Type{Kind: api.TySum, Name: name, Kids: kids}
}

// checkModules compares Symbols and Uses of modules.
func checkModules(t *testing.T, what string, ms []api.Module, symbols, uses []string) {
	t.Helper()
	x := newExample()
	checkList(t, x, what, Symbols(ms), showSymbol, symbols...)
	checkList(t, x, what, Uses(ms), showUse, uses...)
}

func TestUnusedFields(t *testing.T) { // P11.1, P11.2
	all := api.Decl{
		Name:   "n",
		Sum:    api.Sum{Name: "S", Ctors: []api.Ctor{{Name: "A", Arg: sum("B")}}},
		Table:  api.Table{Name: "t", Columns: []api.Column{{Name: "c", Type: sum("C")}}, Key: []string{"k"}, Refs: []api.Ref{{Column: "c", Table: "r"}}, Check: variable("e", 1, 2)},
		Params: []api.Param{{Name: "p", At: 30, End: 40, Type: sum("P"), Default: variable("d", 31, 32)}},
		Type:   sum("R"),
		Body:   variable("b", 3, 4),
		Stmts: []api.Stmt{
			{Kind: api.SInsert, Table: "i", Bind: "x", Cond: variable("j", 5, 6), Value: variable("x", 7, 8), At: 50, End: 59},
			{Kind: api.SDelete, Table: "l", Bind: "x", Cond: variable("x", 9, 10), Value: variable("m", 11, 12), At: 60, End: 69},
		},
		NameAt: 20,
	}
	for kind, want := range map[int][2][]string{
		api.DType: {{"type m:n@20", "ctor m:n.A@20"}, {"m 20-21 n = type m:n@20", "m 20-21 A = ctor m:n.A@20"}},
		api.DTable: {{"table m:n@20", "column m:n.c@20"}, {
			"m 20-21 n = table m:n@20", "m 20-21 c = column m:n.c@20", "m 20-21 C = ?", "m 20-21 k = ?",
			"m 20-21 c = column m:n.c@20", "m 20-21 r = ?", "m 1-2 e = ?"}},
		api.DFun: {{"fun m:n@20", "param m:n.p@30"}, {"m 20-21 n = fun m:n@20", "m 30-31 p = param m:n.p@30", "m 3-4 b = ?"}},
		api.DProc: {{"proc m:n@20", "param m:n.p@30", "local m:n.x@60"}, {
			"m 20-21 n = proc m:n@20", "m 30-31 p = param m:n.p@30", "m 50-59 i = ?", "m 7-8 x = ?",
			"m 60-69 l = ?", "m 60-69 x = local m:n.x@60", "m 9-10 x = local m:n.x@60"}},
		4:  {},
		-1: {},
	} {
		d := all
		d.Kind = kind
		checkModules(t, "kind", []api.Module{{Name: "m", Decls: []api.Decl{d}}}, want[0], want[1])
	}
}

func TestTypesOfAnyContents(t *testing.T) { // P11.2
	typ := sum("A", api.Type{Kind: api.TyInt, Name: "X", Kids: []api.Type{sum("B"), sum("", sum("C"))}}, api.Type{Kind: 9, Kids: []api.Type{sum("Int")}})
	d := api.Decl{Kind: api.DFun, Name: "f", Typed: true, Type: typ, Params: []api.Param{{Name: "p", Typed: true, Type: typ, At: 7, End: 4}}}
	checkModules(t, "types", []api.Module{{Decls: []api.Decl{d}}}, []string{"fun :f@0", "param :f.p@7"}, []string{
		" 0-1 f = fun :f@0", " 7-8 p = param :f.p@7",
		" 7-4 A = ?", " 7-4 B = ?", " 7-4 C = ?", " 7-4 Int = ?",
		" 0-1 A = ?", " 0-1 B = ?", " 0-1 C = ?", " 0-1 Int = ?",
	})
}

func TestNamesOfAnyKind(t *testing.T) { // P11.2: what a name can mean depends on where it stands
	ctor := api.Decl{Kind: api.DType, Name: "k", Sum: api.Sum{Ctors: []api.Ctor{{Name: "k"}}}, NameAt: 1}
	table := api.Decl{Kind: api.DTable, Name: "k", Table: api.Table{
		Columns: []api.Column{{Name: "c", Type: sum("c")}},
		Key:     []string{"k", "c"},
		Refs:    []api.Ref{{Column: "k", Table: "c"}, {Column: "c", Table: "k"}},
		Check:   list(api.Expr{Kind: api.EMake, Name: "c"}, api.Expr{Kind: api.ECall, Name: "c"}, api.Expr{Kind: api.EMatch, Names: []string{"c"}, Binds: []string{""}, Kids: []api.Expr{list(), list()}}),
	}, NameAt: 2}
	fun := api.Decl{Kind: api.DFun, Name: "p", Params: []api.Param{{Name: "k", At: 8}}, Body: list(
		api.Expr{Kind: api.EMake, Name: "k", Kids: []api.Expr{variable("k", 0, 0)}}, api.Expr{Kind: api.EMake, Name: "p"}, api.Expr{Kind: api.ECall, Name: "k"},
		api.Expr{Kind: api.EMatch, Names: []string{"k", "p"}, Binds: []string{"k", ""}, Kids: []api.Expr{list(), variable("k", 0, 9), list()}},
	), NameAt: 3}
	proc := api.Decl{Kind: api.DProc, Name: "q", Params: []api.Param{{Name: "q", At: 5}}, Stmts: []api.Stmt{{Table: "q"}, {Kind: api.SDelete, Table: "q", Bind: "q", At: 6}}, NameAt: 4}
	x := newExample()
	checkList(t, x, "Uses", Uses([]api.Module{{Name: "m", Decls: []api.Decl{ctor, table, fun, proc}}}), showUse,
		"m 1-2 k = type m:k@1", "m 1-2 k = ctor m:k.k@1",
		"m 2-3 k = table m:k@2", "m 2-3 c = column m:k.c@2", "m 2-3 c = ?",
		"m 2-3 k = ?", "m 2-3 c = column m:k.c@2", "m 2-3 k = ?", "m 2-3 c = ?", "m 2-3 c = column m:k.c@2", "m 2-3 k = table m:k@2",
		"m 0-0 c = ?", "m 0-0 c = ?", "m 0-0 c = ?",
		"m 3-4 p = fun m:p@3", "m 8-9 k = param m:p.k@8", "m 0-0 k = ctor m:k.k@1", "m 0-0 k = param m:p.k@8", "m 0-0 p = ?", "m 0-0 k = ?",
		"m 0-0 k = ctor m:k.k@1", "m 0-0 k = local m:p.k@9", "m 0-9 k = local m:p.k@9", "m 0-0 p = ?",
		"m 4-5 q = proc m:q@4", "m 5-6 q = param m:q.q@5", "m 0-0 q = ?", "m 6-0 q = ?", "m 6-0 q = local m:q.q@6",
	)
}

func TestEmptyNames(t *testing.T) { // an empty name is no name
	local := api.Expr{Kind: api.ELet, Name: "v", Kids: []api.Expr{variable("p", 1, 2), list(variable("", 3, 4), variable("v", 5, 6))}, At: 9}
	body := list(
		local,
		api.Expr{Kind: api.ELet, Kids: []api.Expr{variable("", 0, 0), variable("", 0, 0)}},
		api.Expr{Kind: api.ECall}, api.Expr{Kind: api.ECall, S: "m"}, api.Expr{Kind: api.EMake},
		api.Expr{Kind: api.EComp, Names: []string{""}, Kids: []api.Expr{variable("", 0, 0), variable("", 0, 0)}},
		api.Expr{Kind: api.EMatch, Names: []string{""}, Binds: []string{""}, Kids: []api.Expr{variable("", 0, 0), variable("", 0, 0)}},
		api.Expr{Kind: api.ERecord, Names: []string{"", ""}, Kids: []api.Expr{variable("", 0, 0), variable("", 0, 0)}},
	)
	ms := []api.Module{{Name: "m", Decls: []api.Decl{
		{Kind: api.DType, Sum: api.Sum{Ctors: []api.Ctor{{Name: "A"}, {}, {Has: true, Arg: sum("")}, {}}}, NameAt: 3},
		{Kind: api.DType},
		{Kind: api.DTable, Table: api.Table{Columns: []api.Column{{Name: "c"}, {}, {}}, Key: []string{"", "c"}, Refs: []api.Ref{{}, {Table: "t"}, {Column: "c"}}, Check: variable("c", 4, 5)}, NameAt: 6},
		{Kind: api.DTable},
		{Kind: api.DFun, Params: []api.Param{{Name: "p", At: 7}, {At: 8}, {At: 9}}, Body: body, NameAt: 1},
		{Kind: api.DFun, Body: api.Expr{Kind: api.ECall, Name: "g"}},
		{Kind: api.DFun, Name: "g", Body: api.Expr{Kind: api.ECall}},
		{Kind: api.DProc, Stmts: []api.Stmt{{Kind: api.SUpdate, Cond: variable("", 0, 0)}}},
	}}}
	checkModules(t, "empty names", ms,
		[]string{"ctor m:A@3", "column m:c@6", "param m:p@7", "local m:v@9", "fun m:g@0"},
		[]string{
			"m 3-3 A = ctor m:A@3",
			"m 6-6 c = column m:c@6", "m 6-6 c = column m:c@6", "m 6-6 t = ?", "m 6-6 c = column m:c@6", "m 4-5 c = column m:c@6",
			"m 7-8 p = param m:p@7", "m 1-2 p = param m:p@7", "m 9-0 v = local m:v@9", "m 5-6 v = local m:v@9",
			"m 0-0 g = fun m:g@0", "m 0-1 g = fun m:g@0",
		})
	x := newExample()
	checkList(t, x, "Problems", Problems(ms), showProblem, "m 6-6 unknown t")
	checkList(t, x, "Calls", Calls(ms), showCall, "m. m.g")
	checkList(t, x, "Visible", Visible(ms, "m", 0), showSymbol, "fun m:g@0", "ctor m:A@3")
}

func TestCallersWithoutNames(t *testing.T) { // P11.9: a caller may have any name, a callee has one
	call := func(module, name string, kids ...api.Expr) api.Expr {
		return api.Expr{Kind: api.ECall, S: module, Name: name, Kids: kids}
	}
	fun := func(name string, body ...api.Expr) api.Decl {
		return api.Decl{Kind: api.DFun, Name: name, Body: list(body...)}
	}
	proc := func(name string, stmts ...api.Stmt) api.Decl {
		return api.Decl{Kind: api.DProc, Name: name, Stmts: stmts}
	}
	x, y := fun("x"), fun("y")
	withDefault := fun("")
	withDefault.Params = []api.Param{{Name: "p", Has: true, Default: call("", "x")}}
	type modules = []api.Module
	for _, c := range []struct {
		about string
		ms    modules
		want  []string
	}{
		{"a function", modules{{Name: "m", Decls: []api.Decl{fun("", call("", "x")), x}}}, []string{"m. m.x"}},
		{"an insert", modules{{Name: "m", Decls: []api.Decl{proc("", api.Stmt{Value: call("", "x")}), x}}}, []string{"m. m.x"}},
		{"a delete", modules{{Name: "m", Decls: []api.Decl{proc("", api.Stmt{Kind: api.SDelete, Cond: call("m", "x"), Value: call("", "y")}), x, y}}}, []string{"m. m.x"}},
		{"an update", modules{{Name: "m", Decls: []api.Decl{proc("", api.Stmt{Kind: api.SUpdate, Cond: call("", "y"), Value: call("", "x")}), x, y}}}, []string{"m. m.x", "m. m.y"}},
		{"several declarations", modules{{Name: "m", Decls: []api.Decl{x, fun("", call("", "y"), call("", "x"), call("", "y")), proc("", api.Stmt{Value: call("", "x")}), y}}}, []string{"m. m.x", "m. m.y"}},
		{"another module", modules{{Name: "n", Decls: []api.Decl{fun("", call("m", "x"), call("", "x"))}}, {Name: "m", Decls: []api.Decl{x}}}, []string{"n. m.x"}},
		{"modules without names", modules{{Decls: []api.Decl{fun("", call("", "x")), fun("y", call("", "x")), x}}}, []string{". .x", ".y .x"}},
		{"callers with and without names", modules{
			{Name: "m", Decls: []api.Decl{fun("a", call("", "x")), fun("", call("", "x", call("", "a"))), x}},
			{Name: "l", Decls: []api.Decl{fun("", call("m", "x"))}},
		}, []string{"l. m.x", "m. m.a", "m. m.x", "m.a m.x"}},
		{"callees without names", modules{{Name: "m", Decls: []api.Decl{fun("", call("", ""), call("m", "")), fun("x", call("", ""))}}}, nil},
		{"names without meanings", modules{{Name: "m", Decls: []api.Decl{fun("", call("", "z"), call("", "size"), call("n", "x"), call("", "p")), proc("p"), x}}}, nil},
		{"a default", modules{{Name: "m", Decls: []api.Decl{withDefault, x}}}, nil},
		{"what has no body", modules{{Name: "m", Decls: []api.Decl{
			{Kind: api.DType, Body: call("", "x"), Stmts: []api.Stmt{{Value: call("", "x")}}},
			{Kind: api.DTable, Table: api.Table{Check: call("", "x")}, Body: call("", "x")},
			{Kind: api.DFun, Stmts: []api.Stmt{{Value: call("", "x")}}},
			{Kind: api.DProc, Body: call("", "x")},
			{Kind: 7, Body: call("", "x")}, x,
		}}}, nil},
	} {
		checkList(t, newExample(), c.about, Calls(c.ms), showCall, c.want...)
	}
}

func TestModulesWithEqualNames(t *testing.T) { // their functions are those of one module
	f := func(name string, at int, calls ...string) api.Decl {
		d := api.Decl{Kind: api.DFun, Name: name, NameAt: at, Params: []api.Param{{Name: "p" + name, At: 80}}, Body: list(), At: 0, End: 9}
		for _, c := range calls {
			d.Body.Kids = append(d.Body.Kids, api.Expr{Kind: api.ECall, Name: c, At: 90, End: 99})
		}
		d.Body.End = 9
		return d
	}
	ms := []api.Module{
		{Name: "m", Decls: []api.Decl{f("h", 1, "f")}},
		{Name: "k", Decls: []api.Decl{f("f", 2)}},
		{Name: "m", Decls: []api.Decl{f("f", 3, "h", "f"), f("h", 4)}},
		{Name: "l", Decls: []api.Decl{f("a", 5)}},
		{Name: "k", Decls: []api.Decl{f("e", 6)}},
	}
	x := newExample()
	checkList(t, x, "Calls", Calls(ms), showCall, "m.f m.f", "m.f m.h", "m.h m.f")
	checkList(t, x, "Problems", Problems(ms), showProblem, "m 4-5 twice h")
	checkList(t, x, "Uses", Uses(ms)[2:3], showUse, "m 90-99 f = fun m:f@3")
	checkList(t, x, "Visible", Visible(ms, "m", 5), showSymbol,
		"param m:h.ph@80", "fun m:f@3", "fun m:h@1", "fun k:e@6", "fun k:f@2", "fun l:a@5")
	checkList(t, x, "Visible", Visible(ms, "l", 5), showSymbol,
		"param l:a.pa@80", "fun l:a@5", "fun m:f@3", "fun m:h@1", "fun k:e@6", "fun k:f@2")
}

func TestPlacesOfAnyOffsets(t *testing.T) { // P11.5
	let := func(name string, kids ...api.Expr) api.Expr {
		return api.Expr{Kind: api.ELet, Name: name, At: 0, End: 9, Kids: kids}
	}
	e := let("a", let("b", list(), variable("x", 2, 4)), let("c", list(), variable("x", 0, 9)))
	e.Kids[0].At, e.Kids[0].End = 1, 4
	stmts := []api.Stmt{
		{Kind: api.SInsert, Bind: "i", Cond: variable("x", 0, 9), Value: variable("x", 1, 2), At: 0, End: 3},
		{Kind: api.SDelete, Bind: "d", Cond: e, Value: variable("x", 0, 99), At: 2, End: 20},
		{Kind: api.SUpdate, Bind: "u", Cond: variable("x", 30, 31), Value: let("v", variable("x", 50, 50), variable("x", 31, 32)), At: 19, End: 40},
	}
	stmts[2].Value.At, stmts[2].Value.End = 31, 33
	proc := api.Decl{Kind: api.DProc, Stmts: stmts, At: -5, End: 40}
	table := api.Decl{Kind: api.DTable, Table: api.Table{Columns: []api.Column{{Name: "k"}}, Check: variable("x", -1, 0)}, At: -1, End: 9}
	for _, c := range []struct {
		d      api.Decl
		offset int
		want   string
	}{
		{api.Decl{Kind: api.DFun, Body: e, End: 9}, 0, "a"},
		{api.Decl{Kind: api.DFun, Body: e, End: 9}, 1, ""}, // the first Kid of a
		{api.Decl{Kind: api.DFun, Body: e, End: 9}, 2, "b"},
		{api.Decl{Kind: api.DFun, Body: e, End: 9}, 5, "c a"},
		{api.Decl{Kind: api.DFun, Body: e, End: 4}, 5, ""},
		{api.Decl{Kind: api.DFun, Body: e, At: 3, End: 8}, 2, ""},
		{proc, 1, ""}, {proc, 3, ""}, {proc, 4, "b d"}, {proc, 9, "c a d"}, {proc, 10, "d"}, {proc, 20, "d"},
		{proc, 21, ""}, {proc, 30, "u"}, {proc, 31, "u"}, {proc, 32, "v u"}, {proc, 33, "u"}, {proc, 34, ""}, {proc, 41, ""}, {proc, -1, ""},
		{table, 0, ""}, {table, -1, ""},
		{api.Decl{Kind: api.DTable, Table: api.Table{Columns: []api.Column{{Name: "k"}}, Check: variable("x", -1, 1)}, At: -1}, 0, "k"},
		{api.Decl{Kind: api.DTable, Table: api.Table{Columns: []api.Column{{Name: "k"}}, Check: variable("x", -1, 1)}, At: -1}, -1, "k"},
		{api.Decl{Kind: api.DTable, Table: api.Table{Columns: []api.Column{{Name: "k"}}, Check: variable("x", -1, 1)}, At: -1}, 1, ""},
		{api.Decl{Kind: 7, Body: e, Stmts: stmts, Params: []api.Param{{Name: "p"}}, End: 9}, 5, ""},
	} {
		first, second := api.Decl{Kind: api.DType, At: 6, End: 5}, api.Decl{Kind: api.DFun, Params: []api.Param{{Name: "q"}}, Body: list(), At: c.d.At, End: c.d.End}
		second.Body.At, second.Body.End = -9, 99
		ms := []api.Module{{Name: "l", Decls: []api.Decl{second}}, {Name: "m", Decls: []api.Decl{first, c.d, second}}, {Name: "m", Decls: []api.Decl{second}}}
		got := ""
		for i, s := range Visible(ms, "m", c.offset) {
			if i > 0 {
				got += " "
			}
			got += s.Name
		}
		if got != c.want {
			t.Errorf("kind %d at %d: %q, want %q", c.d.Kind, c.offset, got, c.want)
		}
	}
}
