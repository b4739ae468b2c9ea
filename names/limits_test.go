package names

import (
	"slices"
	"strconv"
	"testing"

	"schemalens/api"
)

func TestWrongNumbersOfKids(t *testing.T) { // nothing is promised but that there is a result
	for kind := -1; kind <= api.EBad+1; kind++ {
		for kids := range 4 {
			for names := range 4 {
				for binds := range 4 {
					e := api.Expr{Kind: kind, Name: "x", Names: []string{"A", "x", "x"}[:names], Binds: []string{"x", "", "x"}[:binds]}
					for range kids {
						e.Kids = append(e.Kids, variable("x", 0, 9))
					}
					e.End = 9
					ms := []api.Module{{Name: "m", Decls: []api.Decl{{Kind: api.DFun, Name: "f", Body: e, End: 9}}}}
					Symbols(ms)
					Uses(ms)
					Problems(ms)
					Visible(ms, "m", 3)
					Calls(ms)
					Free(e)
					Subst(e, "x", e)
				}
			}
		}
	}
}

// deep returns an expression with as many levels of one kind.
func deep(kind, levels int) api.Expr {
	e := variable("x", 0, 1)
	for range levels {
		outer := api.Expr{Kind: kind, Kids: []api.Expr{variable("x", 1, 0), e}, At: 0, End: 1}
		switch kind {
		case api.ELet:
			outer.Name = "x"
		case api.EComp:
			outer.Names = []string{"y"}
		case api.EMatch:
			outer.Names, outer.Binds = []string{"A"}, []string{"x"}
		}
		e = outer
	}
	return e
}

func TestDeepExpressions(t *testing.T) { // R1
	const levels = 1 << 16
	for _, kind := range []int{api.ELet, api.EComp, api.EMatch, api.EOp} {
		e := deep(kind, levels)
		ms := []api.Module{{Name: "m", Decls: []api.Decl{{Kind: api.DFun, Name: "f", Body: e, End: 1}}}}
		visible := map[int]int{api.ELet: 1, api.EMatch: 1}[kind]
		if l := Visible(ms, "m", 0); len(l) != visible+1 {
			t.Errorf("kind %d: %d visible symbols", kind, len(l))
		}
		if l := Uses(ms); len(l) < levels || len(Problems(ms)) == 0 || len(Calls(ms)) != 0 {
			t.Errorf("kind %d: %d uses", kind, len(l))
		}
		if l := Free(Subst(e, "x", variable("y", 0, 0))); !slices.Equal(l, []string{"y"}) {
			t.Errorf("kind %d: %v", kind, l)
		}
	}
	typ := sum("T")
	for range levels {
		typ = api.Type{Kind: api.TyList, Kids: []api.Type{typ}}
	}
	ms := []api.Module{{Decls: []api.Decl{{Kind: api.DFun, Typed: true, Type: typ}}}}
	if l := Uses(ms); len(l) != 1 {
		t.Errorf("%d uses of types", len(l))
	}
}

func TestLongLists(t *testing.T) { // R1
	const n = 1 << 16
	record := api.Expr{Kind: api.ERecord}
	table := api.Decl{Kind: api.DTable, Name: "t", Table: api.Table{Check: record}}
	var names []string
	m := api.Module{Name: "m"}
	for i := range n {
		name := "x" + strconv.Itoa(i)
		names = append(names, name, "x")
		record.Names = append(record.Names, name)
		record.Kids = append(record.Kids, api.Expr{Kind: api.ECall, Name: name})
		table.Table.Columns = append(table.Table.Columns, api.Column{Name: name})
		m.Decls = append(m.Decls, api.Decl{Kind: api.DFun, Name: name, Body: api.Expr{Kind: api.ECall, Name: name}})
	}
	m.Decls = append(m.Decls, table, api.Decl{Kind: api.DFun, Name: "f", Body: record})
	ms := []api.Module{m}
	if l := Problems(ms); len(l) != 0 {
		t.Errorf("%d problems", len(l))
	}
	if s, u, c, v := len(Symbols(ms)), len(Uses(ms)), len(Calls(ms)), len(Visible(ms, "m", 0)); s != 2*n+2 || u != 4*n+2 || c != 2*n || v != n+2 {
		t.Errorf("%d symbols, %d uses, %d calls, %d visible", s, u, c, v)
	}
	if s := Fresh("x", names); s != "x"+strconv.Itoa(n) {
		t.Error(s)
	}
}
