package names

import (
	"cmp"
	"slices"
	"strings"

	"schemalens/api"
)

// Visible returns the symbols that an expression at an offset can use.
func Visible(ms []api.Module, doc string, offset int) []Symbol {
	var l []Symbol
	variables := map[string]bool{}
	for v := range scopeAt(ms, doc, offset).variables() {
		if !variables[v.Name] {
			l = append(l, v.Symbol)
		}
		variables[v.Name] = true
	}
	others := slices.DeleteFunc(globals(ms), func(s Symbol) bool {
		return s.Kind == SymType || s.Kind == SymTable && variables[s.Name]
	})
	slices.SortFunc(others, func(a, b Symbol) int {
		return cmp.Or(cmp.Compare(group(ms, doc, a), group(ms, doc, b)), strings.Compare(a.Name, b.Name))
	})
	return append(l, others...)
}

// group returns where a table, a function or a constructor is among all others: tables,
// the functions of the document, those of each other module, and constructors.
func group(ms []api.Module, doc string, s Symbol) int {
	switch {
	case s.Kind == SymTable:
		return 0
	case s.Kind == SymCtor:
		return 2 + len(ms)
	case s.Module == doc:
		return 1
	}
	return 2 + indexOf(ms, s.Module)
}

// indexOf returns the index of the first module with a name, or -1.
func indexOf(ms []api.Module, name string) int {
	return slices.IndexFunc(ms, func(m api.Module) bool { return m.Name == name })
}

// scopeAt returns the scope at an offset of a document.
func scopeAt(ms []api.Module, doc string, offset int) *scope {
	i := indexOf(ms, doc)
	if i < 0 {
		return nil
	}
	for d := range declarations(ms[i : i+1]) {
		if d.At <= offset && offset <= d.End {
			return d.scopeAt(offset)
		}
	}
	return nil
}

func (d declaration) scopeAt(offset int) *scope {
	switch d.Kind {
	case api.DFun:
		return d.scopeIn(d.parameters(), offset, &d.Body)
	case api.DProc:
		return d.scopeInStmts(offset)
	case api.DTable:
		if d.Table.Check.End > 0 {
			return d.scopeIn(d.columns(), offset, &d.Table.Check)
		}
	}
	return nil
}

func (d declaration) scopeInStmts(offset int) *scope {
	for i := range d.Stmts {
		s := &d.Stmts[i]
		if s.At > offset || offset > s.End {
			continue
		}
		if s.Kind == api.SInsert {
			return d.scopeIn(d.parameters(), offset, &s.Value)
		}
		return d.scopeIn(d.bound(s, d.parameters()), offset, &s.Cond, &s.Value)
	}
	return nil
}

// scopeIn returns the scope at an offset in the first one of some expressions that it
// belongs to, or nil.
func (d declaration) scopeIn(in *scope, offset int, l ...*api.Expr) *scope {
	for _, e := range l {
		if covers(*e, offset) {
			return d.innermost(e, in, offset)
		}
	}
	return nil
}

// innermost returns the scope in the innermost expression in e that an offset belongs to.
func (d declaration) innermost(e *api.Expr, in *scope, offset int) *scope {
	kid := slices.IndexFunc(e.Kids, func(k api.Expr) bool { return covers(k, offset) })
	for b := range branches(e, in, d.local) {
		if b.kid == kid {
			return d.innermost(&e.Kids[kid], b.in, offset)
		}
	}
	return in
}

func covers(e api.Expr, offset int) bool {
	return e.At <= offset && offset <= e.End
}
