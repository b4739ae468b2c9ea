package names

import "schemalens/api"

// Roles of names.
const (
	declares = iota
	occurs
	repeats // the name of an earlier field of the same record
)

// A span is a range of bytes.
type span struct{ at, end int }

// A mention is a name in a module. Of the symbol that an occurrence means, it has what is
// looked for: the kind, the name, and the module of a function.
type mention struct {
	Symbol
	span
	role   int
	prefix string // the module in front of the name
	in     *scope // the variables that are looked for first
}

// A reader goes through a declaration in the order of names.
type reader struct {
	declaration
	see func(mention)
}

// tell sees a name; an empty one is none.
func (r reader) tell(m mention) {
	if m.Name != "" {
		r.see(m)
	}
}

func (r reader) declare(s Symbol, at span) {
	r.tell(mention{Symbol: s, span: at, role: declares})
}

// use tells an occurrence that means a variable, or else a symbol of some kind.
func (r reader) use(kind int, name string, at span, in *scope) {
	r.tell(mention{Symbol: Symbol{Kind: kind, Name: name}, span: at, role: occurs, in: in})
}

// nameSpan returns the span of the name of the declaration.
func (r reader) nameSpan() span {
	return span{r.NameAt, r.NameAt + len(r.Name)}
}

func (r reader) self(kind int) {
	r.declare(Symbol{Kind: kind, Module: r.module, Name: r.Name, At: r.NameAt}, r.nameSpan())
}

func (r reader) ctors() {
	for _, c := range r.Sum.Ctors {
		r.declare(r.ctor(c), r.nameSpan())
		if c.Has {
			r.types(c.Arg, r.nameSpan())
		}
	}
}

func (r reader) table() {
	at, columns := r.nameSpan(), r.columns()
	for _, c := range r.Table.Columns {
		r.declare(r.column(c), at)
		r.types(c.Type, at)
	}
	for _, name := range r.Table.Key {
		r.use(SymColumn, name, at, columns)
	}
	for _, ref := range r.Table.Refs {
		r.use(SymColumn, ref.Column, at, columns)
		r.use(SymTable, ref.Table, at, nil)
	}
	r.expr(&r.Table.Check, columns)
}

func (r reader) params() {
	for i, p := range r.Params {
		r.declare(r.param(p), span{p.At, p.At + len(p.Name)})
		if p.Typed {
			r.types(p.Type, span{p.At, p.End})
		}
		if p.Has {
			r.expr(&r.Params[i].Default, nil)
		}
	}
	if r.Typed {
		r.types(r.Type, r.nameSpan())
	}
}

func (r reader) body() {
	switch r.Kind {
	case api.DFun:
		r.expr(&r.Body, r.parameters())
	case api.DProc:
		params := r.parameters()
		for i := range r.Stmts {
			r.stmt(&r.Stmts[i], params)
		}
	}
}

func (r reader) stmt(s *api.Stmt, params *scope) {
	at := span{s.At, s.End}
	r.use(SymTable, s.Table, at, nil)
	if s.Kind == api.SInsert {
		r.expr(&s.Value, params)
		return
	}
	in := r.bound(s, params)
	if in != params {
		r.declare(in.Symbol, at)
	}
	r.expr(&s.Cond, in)
	if s.Kind == api.SUpdate {
		r.expr(&s.Value, in)
	}
}

func (r reader) types(t api.Type, at span) {
	if t.Kind == api.TySum {
		r.use(SymType, t.Name, at, nil)
	}
	for _, k := range t.Kids {
		r.types(k, at)
	}
}

func (r reader) expr(e *api.Expr, in *scope) {
	before := func(e *api.Expr, b branch) {
		at := span{e.At, e.End}
		r.use(SymCtor, b.ctor, at, nil)
		if b.in != b.outer {
			r.declare(b.in.Symbol, at)
		}
	}
	tour{r.local, r.enter, before}.through(e, in)
}

// enter tells the names that an expression begins with.
func (r reader) enter(e *api.Expr, in *scope) {
	at := span{e.At, e.End}
	switch e.Kind {
	case api.EVar:
		r.use(SymTable, e.Name, at, in)
	case api.ECall:
		r.call(e, at)
	case api.EMake:
		r.use(SymCtor, e.Name, at, nil)
	case api.ERecord, api.EWith:
		r.fields(e.Names, at)
	}
}

// fields tells those fields of a record that repeat an earlier one.
func (r reader) fields(l []string, at span) {
	count := map[string]int{}
	for _, name := range l {
		count[name]++
		if count[name] > 1 {
			r.tell(mention{Symbol: Symbol{Name: name}, span: at, role: repeats})
		}
	}
}

func (r reader) call(e *api.Expr, at span) {
	f := Symbol{Kind: SymFun, Module: e.S, Name: e.Name}
	if e.S == "" {
		if isBuiltInFunction(e.Name) {
			return
		}
		f.Module = r.module
	}
	r.tell(mention{Symbol: f, span: at, role: occurs, prefix: e.S})
}
