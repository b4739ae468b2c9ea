package ast

import (
	"slices"

	"schemalens/api"
	"schemalens/lexer"
)

func isWord(s string) bool {
	return lexer.Fits(api.Token{Kind: api.Lower, Text: s})
}

func isCapitalWord(s string) bool {
	return lexer.Fits(api.Token{Kind: api.Upper, Text: s})
}

// examine returns the first error of what consists of nodes, each before its kids.
func examine[T any](x T, kids func(T) []T, check func(T) api.Errno) api.Errno {
	if err := check(x); err != api.OK {
		return err
	}
	for _, k := range kids(x) {
		if err := examine(k, kids, check); err != api.OK {
			return err
		}
	}
	return api.OK
}

func kidsOfType(t api.Type) []api.Type { return t.Kids }

// checkType returns the error of a type apart from the types in it.
func checkType(t api.Type) api.Errno {
	switch {
	case t.Kind == api.TyVar || t.Kind == api.TyRecord && t.N != 0:
		return api.ErrType
	case !typeFits(t):
		return api.ErrArg
	case t.Kind == api.TySum && typeNamed(t.Name).Kind != api.TySum:
		return api.ErrName
	case t.Kind == api.TySum && !isCapitalWord(t.Name):
		return api.ErrName
	case !areFields(t.Names):
		return api.ErrName
	}
	return api.OK
}

// typeFits reports whether a type has the fields of its kind, and no others.
func typeFits(t api.Type) bool {
	kids := 0
	switch t.Kind {
	case api.TyInt, api.TyText, api.TyBool:
	case api.TySum:
		t.Name = ""
	case api.TyList:
		kids = 1
	case api.TyRecord:
		kids = len(t.Names)
		t.Names = nil
	default:
		return false
	}
	return t.Name == "" && t.N == 0 && len(t.Names) == 0 && len(t.Kids) == kids
}

// areFields reports whether names are strictly increasing words.
func areFields(l []string) bool {
	for i, name := range l {
		if !isWord(name) || i > 0 && l[i-1] >= name {
			return false
		}
	}
	return true
}

func kidsOfExpr(e api.Expr) []api.Expr { return e.Kids }

// checkExpr returns the error of an expression apart from the expressions in it.
func checkExpr(e api.Expr) api.Errno {
	switch {
	case !exprFits(e) || !hasKids(e):
		return api.ErrArg
	case !hasNames(e):
		return api.ErrName
	case e.Kind == api.EInt && (e.N < 0 || e.N > api.MaxInt):
		return api.ErrLimit
	case e.Kind == api.EText:
		_, err := lexer.Quote(e.S)
		return err
	}
	return api.OK
}

// exprFits reports whether an expression has no fields that its kind does not use.
func exprFits(e api.Expr) bool {
	switch e.Kind {
	case api.EInt:
		e.N = 0
	case api.EBool:
		if e.N == 1 {
			e.N = 0
		}
	case api.EText:
		e.S = ""
	case api.EVar, api.EMake, api.EField, api.ELet, api.EOp:
		e.Name = ""
	case api.ECall:
		e.Name, e.S = "", ""
	case api.ERecord, api.EWith, api.EComp:
		e.Names = nil
	case api.EMatch:
		e.Names, e.Binds = nil, nil
	}
	return e.Name == "" && e.N == 0 && e.S == "" && len(e.Names) == 0 && len(e.Binds) == 0
}

// hasKids reports whether an expression is of a kind that can be printed, and has as many
// Kids as that requires.
func hasKids(e api.Expr) bool {
	switch kids, names := len(e.Kids), len(e.Names); e.Kind {
	case api.EInt, api.EText, api.EBool, api.EVar, api.EHole:
		return kids == 0
	case api.ECall, api.EList:
		return true
	case api.EMake:
		return kids <= 1
	case api.ERecord:
		return kids == names
	case api.EWith, api.EComp:
		return names > 0 && kids == 1+names
	case api.EMatch:
		return names > 0 && kids == 1+names && len(e.Binds) == names
	case api.EField:
		return kids == 1
	case api.ELet:
		return kids == 2
	case api.EIf:
		return kids == 3
	case api.EOp:
		o, known := operatorNamed(e.Name)
		return known && kids == o.operands
	}
	return false
}

// hasNames reports whether the names in an expression are words of the right sort.
func hasNames(e api.Expr) bool {
	isWordOrEmpty := func(s string) bool { return s == "" || isWord(s) }
	switch e.Kind {
	case api.EVar, api.EField, api.ELet:
		return isWord(e.Name)
	case api.ECall:
		return isWord(e.Name) && isWordOrEmpty(e.S)
	case api.EMake:
		return isCapitalWord(e.Name)
	case api.ERecord, api.EWith:
		return all(e.Names, isWord)
	case api.EComp:
		return all(e.Names, isWordOrEmpty)
	case api.EMatch:
		return all(e.Names, isCapitalWord) && all(e.Binds, isWordOrEmpty)
	}
	return true
}

func all(l []string, has func(string) bool) bool {
	return !slices.ContainsFunc(l, func(s string) bool { return !has(s) })
}

// declFits reports whether a declaration has the fields of its kind, and no others,
// statements aside.
func declFits(d api.Decl) bool {
	rest := d
	fits := false
	switch d.Kind {
	case api.DType:
		fits = d.Sum.Name == d.Name && len(d.Sum.Ctors) > 0 && !slices.ContainsFunc(d.Sum.Ctors, hasUnusedArg)
		rest.Sum = api.Sum{}
	case api.DTable:
		fits = d.Table.Name == d.Name && len(d.Table.Key) > 0
		rest.Table = api.Table{}
	case api.DFun:
		fits = d.Typed || equalType(d.Type, api.Type{})
		rest.Params, rest.Typed, rest.Type, rest.Body = nil, false, api.Type{}, api.Expr{}
	case api.DProc:
		fits = len(d.Stmts) > 0
		rest.Params, rest.Stmts = nil, nil
	}
	return fits && !slices.ContainsFunc(d.Params, hasUnusedFields) &&
		equalDecl(rest, api.Decl{Kind: d.Kind, Name: d.Name})
}

func hasUnusedArg(c api.Ctor) bool {
	return !c.Has && !equalType(c.Arg, api.Type{})
}

func hasUnusedFields(p api.Param) bool {
	return !p.Typed && !equalType(p.Type, api.Type{}) || !p.Has && !EqualExpr(p.Default, api.Expr{})
}

// stmtFits reports whether a statement has no fields that its kind does not use.
func stmtFits(s api.Stmt) bool {
	switch s.Kind {
	case api.SInsert:
		return s.Bind == "" && EqualExpr(s.Cond, api.Expr{})
	case api.SDelete:
		return EqualExpr(s.Value, api.Expr{})
	}
	return s.Kind == api.SUpdate
}
