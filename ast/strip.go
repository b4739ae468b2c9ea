package ast

import (
	"slices"

	"schemalens/api"
)

// Strip removes the positions.
func Strip(m api.Module) api.Module {
	return api.Module{Name: m.Name, Decls: each(m.Decls, stripDecl)}
}

// StripExpr removes the positions of an expression.
func StripExpr(e api.Expr) api.Expr {
	e.Names = slices.Clone(e.Names)
	e.Binds = slices.Clone(e.Binds)
	e.Kids = each(e.Kids, StripExpr)
	e.At, e.End = 0, 0
	return e
}

// each returns what f makes of the elements of a list.
func each[T any](l []T, f func(T) T) []T {
	var all []T
	for _, x := range l {
		all = append(all, f(x))
	}
	return all
}

func stripDecl(d api.Decl) api.Decl {
	d.Sum.Ctors = each(d.Sum.Ctors, copyCtor)
	d.Table = stripTable(d.Table)
	d.Params = each(d.Params, stripParam)
	d.Type = copyType(d.Type)
	d.Body = StripExpr(d.Body)
	d.Stmts = each(d.Stmts, stripStmt)
	d.NameAt, d.At, d.End = 0, 0, 0
	return d
}

func stripTable(t api.Table) api.Table {
	t.Columns = each(t.Columns, copyColumn)
	t.Key = slices.Clone(t.Key)
	t.Refs = slices.Clone(t.Refs)
	t.Check = StripExpr(t.Check)
	return t
}

func stripParam(p api.Param) api.Param {
	p.Type = copyType(p.Type)
	p.Default = StripExpr(p.Default)
	p.At, p.End = 0, 0
	return p
}

func stripStmt(s api.Stmt) api.Stmt {
	s.Cond = StripExpr(s.Cond)
	s.Value = StripExpr(s.Value)
	s.At, s.End = 0, 0
	return s
}

func copyCtor(c api.Ctor) api.Ctor {
	c.Arg = copyType(c.Arg)
	return c
}

func copyColumn(c api.Column) api.Column {
	c.Type = copyType(c.Type)
	return c
}

func copyType(t api.Type) api.Type {
	t.Names = slices.Clone(t.Names)
	t.Kids = each(t.Kids, copyType)
	return t
}
