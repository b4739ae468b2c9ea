package ast

import (
	"slices"
	"strings"

	"schemalens/api"
)

// decl returns the declaration of a node that has a name.
func (l *lowering) decl(n node) api.Decl {
	name := n.names()[0]
	d := api.Decl{Name: name.text, NameAt: name.at, At: n.at, End: n.end}
	switch n.kind {
	case api.NType:
		d.Kind = api.DType
		d.Sum = api.Sum{Name: d.Name, Ctors: collect(n, ctor, api.NCtor)}
	case api.NTable:
		d.Kind = api.DTable
		d.Table = l.table(d.Name, n)
	case api.NFun:
		d.Kind = api.DFun
		d.Params = collect(n, l.param, api.NParam)
		d.Typed, d.Type = annotation(n)
		d.Body = l.expr(n.last())
	case api.NProc:
		d.Kind = api.DProc
		d.Params = collect(n, l.param, api.NParam)
		d.Stmts = collect(n, l.stmt, api.NInsert, api.NDelete, api.NUpdate)
	}
	return d
}

func ctor(n node) api.Ctor {
	c := api.Ctor{Name: n.name(0), Has: n.has("(")}
	if c.Has {
		c.Arg = typeOf(n)
	}
	return c
}

func (l *lowering) table(name string, n node) api.Table {
	t := api.Table{Name: name, Columns: collect(n, column, api.NField), Check: noCheck()}
	for _, p := range n.partsOf(api.NKey) {
		for _, leaf := range p.names() {
			t.Key = append(t.Key, leaf.text)
		}
	}
	for _, p := range n.partsOf(api.NRef) {
		if len(p.names()) == 2 {
			t.Refs = append(t.Refs, api.Ref{Column: p.name(0), Table: p.name(1)})
		}
	}
	for _, p := range n.partsOf(api.NCheck) {
		t.Check = l.expr(p.last())
	}
	return t
}

// noCheck is the Check of a table without one.
func noCheck() api.Expr {
	return api.Expr{Kind: api.EBool, N: 1}
}

func column(n node) api.Column {
	return api.Column{Name: n.name(0), Type: typeOf(n)}
}

func (l *lowering) param(n node) api.Param {
	p := api.Param{Name: n.name(0), Has: n.has("="), At: n.at, End: n.end}
	p.Typed, p.Type = annotation(n)
	if p.Has {
		p.Default = l.expr(n.last())
	}
	return p
}

func (l *lowering) stmt(n node) api.Stmt {
	s := api.Stmt{Table: n.name(0), At: n.at, End: n.end}
	switch n.kind {
	case api.NInsert:
		s.Kind = api.SInsert
		s.Value = l.value(n)
	case api.NDelete:
		s.Kind = api.SDelete
		s.Bind = n.name(1)
		s.Cond = l.value(n)
	case api.NUpdate:
		s.Kind = api.SUpdate
		s.Bind = n.name(1)
		s.Cond = bad(n)
		if !n.hasError() {
			s.Cond = l.operands(n)[0]
		}
		s.Value = l.value(n)
	}
	return s
}

// annotation returns the type behind the ":" of a node, if there is one.
func annotation(n node) (typed bool, t api.Type) {
	if !n.has(":") {
		return false, api.Type{}
	}
	return true, typeOf(n)
}

// typeOf returns the type of the first part that is one, or the unknown type.
func typeOf(n node) api.Type {
	for _, p := range n.partsOf(api.NTypeName, api.NTypeList, api.NTypeRecord) {
		switch p.kind {
		case api.NTypeName:
			return typeNamed(p.name(0))
		case api.NTypeList:
			return api.Type{Kind: api.TyList, Kids: []api.Type{typeOf(p)}}
		case api.NTypeRecord:
			return recordType(p)
		}
	}
	return api.Type{Kind: api.TyVar}
}

func typeNamed(name string) api.Type {
	switch name {
	case "Int":
		return api.Type{Kind: api.TyInt}
	case "Text":
		return api.Type{Kind: api.TyText}
	case "Bool":
		return api.Type{Kind: api.TyBool}
	}
	return api.Type{Kind: api.TySum, Name: name}
}

func recordType(n node) api.Type {
	fields := collect(n, column, api.NField)
	slices.SortStableFunc(fields, func(a, b api.Column) int { return strings.Compare(a.Name, b.Name) })
	fields = slices.CompactFunc(fields, func(a, b api.Column) bool { return a.Name == b.Name })
	t := api.Type{Kind: api.TyRecord}
	for _, f := range fields {
		t.Names = append(t.Names, f.Name)
		t.Kids = append(t.Kids, f.Type)
	}
	return t
}
