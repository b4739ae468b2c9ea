package names

import (
	"iter"
	"slices"

	"schemalens/api"
)

// A declaration is one of a module.
type declaration struct {
	module string
	*api.Decl
}

// declarations yields the declarations of modules in order.
func declarations(ms []api.Module) iter.Seq[declaration] {
	return func(yield func(declaration) bool) {
		for _, m := range ms {
			for i := range m.Decls {
				if !yield(declaration{m.Name, &m.Decls[i]}) {
					return
				}
			}
		}
	}
}

// names calls see with each name of the declaration, in the order of names.
func (d declaration) names(see func(mention)) {
	r := reader{d, see}
	switch d.Kind {
	case api.DType:
		r.self(SymType)
		r.ctors()
	case api.DTable:
		r.self(SymTable)
		r.table()
	case api.DFun:
		r.self(SymFun)
		r.params()
		r.body()
	case api.DProc:
		r.self(SymProc)
		r.params()
		r.body()
	}
}

// bodyNames calls see with each name in the Body or the statements.
func (d declaration) bodyNames(see func(mention)) {
	reader{d, see}.body()
}

// part returns a symbol whose owner is the declaration.
func (d declaration) part(kind int, name string, at int) Symbol {
	return Symbol{Kind: kind, Module: d.module, Owner: d.Name, Name: name, At: at}
}

func (d declaration) ctor(c api.Ctor) Symbol {
	return d.part(SymCtor, c.Name, d.NameAt)
}

func (d declaration) column(c api.Column) Symbol {
	return d.part(SymColumn, c.Name, d.NameAt)
}

func (d declaration) param(p api.Param) Symbol {
	return d.part(SymParam, p.Name, p.At)
}

func (d declaration) local(name string, at int) Symbol {
	return d.part(SymLocal, name, at)
}

// parameters returns the scope of the parameters, of which the first one is the innermost.
func (d declaration) parameters() *scope {
	var in *scope
	for _, p := range slices.Backward(d.Params) {
		in = in.with(d.param(p), nil)
	}
	return in
}

// columns returns the scope of the columns, of which the first one is the innermost.
func (d declaration) columns() *scope {
	var in *scope
	for _, c := range slices.Backward(d.Table.Columns) {
		in = in.with(d.column(c), nil)
	}
	return in
}

// bound returns the scope in a statement, where params are in scope.
func (d declaration) bound(s *api.Stmt, params *scope) *scope {
	switch s.Kind {
	case api.SDelete, api.SUpdate:
		return params.with(d.local(s.Bind, s.At), nil)
	}
	return params
}
