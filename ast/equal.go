package ast

import (
	"slices"

	"schemalens/api"
)

// Equal compares modules without positions.
func Equal(a, b api.Module) bool {
	return a.Name == b.Name && slices.EqualFunc(a.Decls, b.Decls, equalDecl)
}

// EqualExpr compares expressions without positions.
func EqualExpr(a, b api.Expr) bool {
	return a.Kind == b.Kind && a.Name == b.Name && a.N == b.N && a.S == b.S &&
		slices.Equal(a.Names, b.Names) && slices.Equal(a.Binds, b.Binds) &&
		slices.EqualFunc(a.Kids, b.Kids, EqualExpr)
}

// Size returns the number of nodes of an expression.
func Size(e api.Expr) int {
	size := 1
	for _, k := range e.Kids {
		size += Size(k)
	}
	return size
}

func equalDecl(a, b api.Decl) bool {
	return a.Kind == b.Kind && a.Name == b.Name && equalSum(a.Sum, b.Sum) && equalTable(a.Table, b.Table) &&
		slices.EqualFunc(a.Params, b.Params, equalParam) &&
		a.Typed == b.Typed && equalType(a.Type, b.Type) && EqualExpr(a.Body, b.Body) &&
		slices.EqualFunc(a.Stmts, b.Stmts, equalStmt)
}

func equalSum(a, b api.Sum) bool {
	return a.Name == b.Name && slices.EqualFunc(a.Ctors, b.Ctors, equalCtor)
}

func equalCtor(a, b api.Ctor) bool {
	return a.Name == b.Name && a.Has == b.Has && equalType(a.Arg, b.Arg)
}

func equalTable(a, b api.Table) bool {
	return a.Name == b.Name && slices.EqualFunc(a.Columns, b.Columns, equalColumn) &&
		slices.Equal(a.Key, b.Key) && slices.Equal(a.Refs, b.Refs) && EqualExpr(a.Check, b.Check)
}

func equalColumn(a, b api.Column) bool {
	return a.Name == b.Name && equalType(a.Type, b.Type)
}

func equalParam(a, b api.Param) bool {
	return a.Name == b.Name && a.Typed == b.Typed && equalType(a.Type, b.Type) &&
		a.Has == b.Has && EqualExpr(a.Default, b.Default)
}

func equalStmt(a, b api.Stmt) bool {
	return a.Kind == b.Kind && a.Table == b.Table && a.Bind == b.Bind &&
		EqualExpr(a.Cond, b.Cond) && EqualExpr(a.Value, b.Value)
}

func equalType(a, b api.Type) bool {
	return a.Kind == b.Kind && a.Name == b.Name && a.N == b.N &&
		slices.Equal(a.Names, b.Names) && slices.EqualFunc(a.Kids, b.Kids, equalType)
}
