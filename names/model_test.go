package names

import (
	"slices"
	"sort"
	"strconv"
	"strings"

	"schemalens/api"
)

// A place is a path that leads to a part of a workspace, each step with a "/" behind it.
type place string

func (p place) to(step int) place { return p + place(strconv.Itoa(step)) + "/" }

func (p place) isIn(outer place) bool { return strings.HasPrefix(string(p), string(outer)) }

func (p place) depth() int { return strings.Count(string(p), "/") }

// Parts of declarations and statements to which paths lead.
const (
	stepBody = iota
	stepStmts
	stepCheck
	stepDefault
	stepCond
	stepValue
)

// A modelName is a declared or occurring name in the order of names.
type modelName struct {
	doc      string
	at, end  int
	declared bool
	symbol   Symbol // of an occurrence: the kind (SymLocal stands for variables and tables), the name, and the module of a function
	prefix   string
	place    place   // of the name
	scopes   []place // of a variable: the places where it is in scope
	decl     place   // the declaration with the name
	order    int     // among the variables that are declared at the same place, the greatest is the innermost
}

// A model lists names after the chapter's table and its order of names.
type model struct {
	names []modelName
	doc   string
	owner string
	decl  place
}

func modelOf(ms []api.Module) *model {
	m := &model{}
	for i, x := range ms {
		m.doc = x.Name
		for j, d := range x.Decls {
			m.owner, m.decl = d.Name, place("").to(i).to(j)
			m.declaration(d)
		}
	}
	return m
}

func (m *model) add(n modelName) {
	if n.symbol.Name == "" {
		return
	}
	n.doc, n.decl = m.doc, m.decl
	if n.declared {
		n.symbol.Module = m.doc
		if n.symbol.Kind == SymCtor || n.symbol.Kind == SymColumn || n.symbol.Kind == SymParam || n.symbol.Kind == SymLocal {
			n.symbol.Owner = m.owner
		}
	}
	m.names = append(m.names, n)
}

func (m *model) use(kind int, name string, at, end int) {
	m.add(modelName{at: at, end: end, symbol: Symbol{Kind: kind, Name: name}, place: m.decl})
}

func (m *model) declaration(d api.Decl) {
	kinds := map[int]int{api.DType: SymType, api.DTable: SymTable, api.DFun: SymFun, api.DProc: SymProc}
	kind, ok := kinds[d.Kind]
	if !ok {
		return
	}
	at, end := d.NameAt, d.NameAt+len(d.Name)
	m.add(modelName{at: at, end: end, declared: true, symbol: Symbol{Kind: kind, Name: d.Name, At: d.NameAt}})
	if d.Kind == api.DType {
		for _, c := range d.Sum.Ctors {
			m.add(modelName{at: at, end: end, declared: true, symbol: Symbol{Kind: SymCtor, Name: c.Name, At: d.NameAt}})
			if c.Has {
				m.typ(c.Arg, at, end)
			}
		}
	}
	if d.Kind == api.DTable {
		for i, c := range d.Table.Columns {
			m.add(modelName{at: at, end: end, declared: true, symbol: Symbol{Kind: SymColumn, Name: c.Name, At: d.NameAt},
				place: m.decl, scopes: []place{m.decl.to(stepCheck)}, order: -i})
			m.typ(c.Type, at, end)
		}
		for _, k := range d.Table.Key {
			m.use(SymColumn, k, at, end)
		}
		for _, r := range d.Table.Refs {
			m.use(SymColumn, r.Column, at, end)
			m.use(SymTable, r.Table, at, end)
		}
		m.expr(d.Table.Check, m.decl.to(stepCheck))
	}
	if d.Kind == api.DFun || d.Kind == api.DProc {
		m.params(d)
		if d.Typed {
			m.typ(d.Type, at, end)
		}
	}
	if d.Kind == api.DFun {
		m.expr(d.Body, m.decl.to(stepBody))
	}
	if d.Kind == api.DProc {
		for i, s := range d.Stmts {
			m.stmt(s, m.decl.to(stepStmts).to(i))
		}
	}
}

func (m *model) params(d api.Decl) {
	for i, p := range d.Params {
		m.add(modelName{at: p.At, end: p.At + len(p.Name), declared: true, symbol: Symbol{Kind: SymParam, Name: p.Name, At: p.At},
			place: m.decl, scopes: []place{m.decl.to(stepBody), m.decl.to(stepStmts)}, order: -i})
		if p.Typed {
			m.typ(p.Type, p.At, p.End)
		}
		if p.Has {
			m.expr(p.Default, m.decl.to(stepDefault).to(i))
		}
	}
}

func (m *model) stmt(s api.Stmt, at place) {
	m.use(SymTable, s.Table, s.At, s.End)
	if s.Kind == api.SInsert {
		m.expr(s.Value, at.to(stepValue))
		return
	}
	if s.Kind == api.SDelete || s.Kind == api.SUpdate {
		m.add(modelName{at: s.At, end: s.End, declared: true, symbol: Symbol{Kind: SymLocal, Name: s.Bind, At: s.At},
			place: at, scopes: []place{at.to(stepCond), at.to(stepValue)}})
	}
	m.expr(s.Cond, at.to(stepCond))
	if s.Kind == api.SUpdate {
		m.expr(s.Value, at.to(stepValue))
	}
}

func (m *model) typ(t api.Type, at, end int) {
	if t.Kind == api.TySum {
		m.use(SymType, t.Name, at, end)
	}
	for _, k := range t.Kids {
		m.typ(k, at, end)
	}
}

func (m *model) expr(e api.Expr, at place) {
	occurrence := func(s Symbol, prefix string) {
		m.add(modelName{at: e.At, end: e.End, symbol: s, prefix: prefix, place: at})
	}
	variable := func(name string, offset, order int, kids ...int) {
		n := modelName{at: e.At, end: e.End, declared: true, symbol: Symbol{Kind: SymLocal, Name: name, At: offset}, place: at, order: order}
		for _, k := range kids {
			n.scopes = append(n.scopes, at.to(k))
		}
		m.add(n)
	}
	kid := func(i int) { m.expr(e.Kids[i], at.to(i)) }
	switch e.Kind {
	case api.EVar:
		occurrence(Symbol{Kind: SymLocal, Name: e.Name}, "")
	case api.EMake:
		occurrence(Symbol{Kind: SymCtor, Name: e.Name}, "")
	case api.ECall:
		if e.S != "" {
			occurrence(Symbol{Kind: SymFun, Module: e.S, Name: e.Name}, e.S)
		} else if !slices.Contains(builtInFunctions(), e.Name) {
			occurrence(Symbol{Kind: SymFun, Module: m.doc, Name: e.Name}, "")
		}
	}
	switch e.Kind {
	case api.ELet:
		kid(0)
		variable(e.Name, e.At, 0, 1)
		kid(1)
	case api.EComp:
		for i, name := range e.Names {
			kid(i + 1)
			scopes := []int{0}
			for k := i + 2; k < len(e.Kids); k++ {
				scopes = append(scopes, k)
			}
			variable(name, e.Kids[i+1].End, i, scopes...)
		}
		kid(0)
	case api.EMatch:
		kid(0)
		for i, name := range e.Names {
			occurrence(Symbol{Kind: SymCtor, Name: name}, "")
			variable(e.Binds[i], e.Kids[i+1].End, 0, i+1)
			kid(i + 1)
		}
	default:
		for i := range e.Kids {
			kid(i)
		}
	}
}

func builtInFunctions() []string {
	return []string{"sort", "distinct", "size", "sum", "any", "all"}
}

// variables returns the indices of the variables in scope at a place, the innermost first.
func (m *model) variables(at place) []int {
	var l []int
	for i, n := range m.names {
		if slices.ContainsFunc(n.scopes, at.isIn) {
			l = append(l, i)
		}
	}
	sort.SliceStable(l, func(i, j int) bool {
		a, b := m.names[l[i]], m.names[l[j]]
		if a.place != b.place {
			return a.place.depth() > b.place.depth()
		}
		return a.order > b.order
	})
	return l
}

// variable returns the index of the variable that a name means at a place, or -1.
func (m *model) variable(name string, at place) int {
	for _, i := range m.variables(at) {
		if m.names[i].symbol.Name == name {
			return i
		}
	}
	return -1
}

// meaning returns the symbol that an occurrence means.
func (m *model) meaning(n modelName) (Symbol, bool) {
	want := n.symbol
	if want.Kind == SymLocal {
		if i := m.variable(want.Name, n.place); i >= 0 {
			return m.names[i].symbol, true
		}
		want.Kind = SymTable
	}
	for _, d := range m.names {
		if !d.declared || d.symbol.Kind != want.Kind || d.symbol.Name != want.Name {
			continue
		}
		if want.Kind == SymFun && d.symbol.Module != want.Module || want.Kind == SymColumn && d.decl != n.decl {
			continue
		}
		return d.symbol, true
	}
	return Symbol{}, false
}

func (m *model) symbols() []Symbol {
	var l []Symbol
	for _, n := range m.names {
		if n.declared {
			l = append(l, n.symbol)
		}
	}
	return l
}

func (m *model) uses() []Use {
	var l []Use
	for _, n := range m.names {
		u := Use{Doc: n.doc, At: n.at, End: n.end, Name: n.symbol.Name, Known: true, Symbol: n.symbol}
		if !n.declared {
			u.Symbol, u.Known = m.meaning(n)
		}
		if !u.Known && n.prefix != "" {
			u.Name = n.prefix + "." + u.Name
		}
		l = append(l, u)
	}
	return l
}

// isTwice reports whether the name with an index is declared a second time.
func (m *model) isTwice(i int) bool {
	n := m.names[i]
	isFun := func(s Symbol) bool { return s.Kind == SymFun || s.Kind == SymProc }
	if !n.declared || n.symbol.Kind == SymLocal {
		return false
	}
	if isFun(n.symbol) && slices.Contains(builtInFunctions(), n.symbol.Name) ||
		n.symbol.Kind == SymType && slices.Contains([]string{"Int", "Text", "Bool"}, n.symbol.Name) {
		return true
	}
	return slices.ContainsFunc(m.names[:i], func(x modelName) bool {
		if !x.declared || x.symbol.Name != n.symbol.Name {
			return false
		}
		switch n.symbol.Kind {
		case SymType, SymCtor, SymTable:
			return x.symbol.Kind == n.symbol.Kind
		case SymColumn, SymParam:
			return x.symbol.Kind == n.symbol.Kind && x.decl == n.decl
		}
		return isFun(x.symbol) && x.doc == n.doc
	})
}

func modelProblems(ms []api.Module) []api.Problem {
	m := modelOf(ms)
	var l []api.Problem
	add := func(doc string, at, end, code int, name string) {
		l = append(l, api.Problem{Doc: doc, At: at, End: end, Code: code, Names: []string{name}})
	}
	for i, u := range m.uses() {
		if m.isTwice(i) {
			add(u.Doc, u.At, u.End, api.CodeTwice, u.Name)
		}
		if !u.Known {
			add(u.Doc, u.At, u.End, api.CodeName, u.Name)
		}
	}
	for _, x := range ms {
		for _, d := range x.Decls {
			for _, e := range everyExpr(d) {
				for i, name := range e.Names {
					if (e.Kind == api.ERecord || e.Kind == api.EWith) && name != "" && slices.Contains(e.Names[:i], name) {
						add(x.Name, e.At, e.End, api.CodeTwice, name)
					}
				}
			}
		}
	}
	less := func(a, b api.Problem) int {
		x, y := []any{a.Doc, a.At, a.End, a.Code, a.Names[0]}, []any{b.Doc, b.At, b.End, b.Code, b.Names[0]}
		for i := range x {
			switch p := x[i].(type) {
			case string:
				if c := strings.Compare(p, y[i].(string)); c != 0 {
					return c
				}
			case int:
				if p != y[i].(int) {
					return p - y[i].(int)
				}
			}
		}
		return 0
	}
	slices.SortFunc(l, less)
	return slices.CompactFunc(l, func(a, b api.Problem) bool { return less(a, b) == 0 })
}

// everyExpr returns all expressions in which names are looked for.
func everyExpr(d api.Decl) []api.Expr {
	var l []api.Expr
	var add func(e api.Expr)
	add = func(e api.Expr) {
		l = append(l, e)
		for _, k := range e.Kids {
			add(k)
		}
	}
	switch d.Kind {
	case api.DTable:
		add(d.Table.Check)
	case api.DFun, api.DProc:
		for _, p := range d.Params {
			if p.Has {
				add(p.Default)
			}
		}
	}
	if d.Kind == api.DFun {
		add(d.Body)
	}
	if d.Kind == api.DProc {
		for _, s := range d.Stmts {
			if s.Kind != api.SInsert {
				add(s.Cond)
			}
			if s.Kind == api.SInsert || s.Kind == api.SUpdate {
				add(s.Value)
			}
		}
	}
	return l
}

// placeAt returns the place at an offset in the way of P11.5; it is empty if it does not
// get beyond a declaration or a statement.
func placeAt(ms []api.Module, doc string, offset int) place {
	holds := func(at, end int) bool { return at <= offset && offset <= end }
	within := func(e api.Expr, p place) place {
		for {
			i := slices.IndexFunc(e.Kids, func(k api.Expr) bool { return holds(k.At, k.End) })
			if i < 0 {
				return p
			}
			e, p = e.Kids[i], p.to(i)
		}
	}
	i := slices.IndexFunc(ms, func(m api.Module) bool { return m.Name == doc })
	if i < 0 {
		return ""
	}
	j := slices.IndexFunc(ms[i].Decls, func(d api.Decl) bool { return holds(d.At, d.End) })
	if j < 0 {
		return ""
	}
	p, d := place("").to(i).to(j), ms[i].Decls[j]
	switch {
	case d.Kind == api.DFun && holds(d.Body.At, d.Body.End):
		return within(d.Body, p.to(stepBody))
	case d.Kind == api.DTable && d.Table.Check.End > 0 && holds(d.Table.Check.At, d.Table.Check.End):
		return within(d.Table.Check, p.to(stepCheck))
	case d.Kind == api.DProc:
		k := slices.IndexFunc(d.Stmts, func(s api.Stmt) bool { return holds(s.At, s.End) })
		if k < 0 {
			return ""
		}
		s, p := d.Stmts[k], p.to(stepStmts).to(k)
		if s.Kind != api.SInsert && holds(s.Cond.At, s.Cond.End) {
			return within(s.Cond, p.to(stepCond))
		}
		if holds(s.Value.At, s.Value.End) {
			return within(s.Value, p.to(stepValue))
		}
	}
	return ""
}

func (m *model) visible(ms []api.Module, doc string, offset int) []Symbol {
	var l []Symbol
	isNew := func(s Symbol) bool {
		return !slices.ContainsFunc(l, func(x Symbol) bool {
			isVariable := x.Kind >= SymParam || x.Kind == SymColumn
			return x.Name == s.Name && (x.Kind == s.Kind && x.Module == s.Module || isVariable && s.Kind == SymTable ||
				isVariable && (s.Kind >= SymParam || s.Kind == SymColumn) || x.Kind == s.Kind && s.Kind != SymFun)
		})
	}
	if p := placeAt(ms, doc, offset); p != "" {
		for _, i := range m.variables(p) {
			if s := m.names[i].symbol; isNew(s) {
				l = append(l, s)
			}
		}
	}
	add := func(kind int, fits func(s Symbol) bool) {
		var part []Symbol
		for _, s := range m.symbols() {
			if s.Kind == kind && fits(s) && !slices.ContainsFunc(part, func(x Symbol) bool { return x.Name == s.Name }) && isNew(s) {
				part = append(part, s)
			}
		}
		sort.SliceStable(part, func(i, j int) bool { return part[i].Name < part[j].Name })
		l = append(l, part...)
	}
	all := func(Symbol) bool { return true }
	add(SymTable, all)
	add(SymFun, func(s Symbol) bool { return s.Module == doc })
	for _, x := range ms {
		if x.Name != doc {
			add(SymFun, func(s Symbol) bool { return s.Module == x.Name })
		}
	}
	add(SymCtor, all)
	return l
}

func modelCalls(ms []api.Module) [][2]string {
	m := modelOf(ms)
	var l [][2]string
	for _, n := range m.names {
		s, ok := m.meaning(n)
		if n.declared || !ok || s.Kind != SymFun || !n.place.isIn(n.decl.to(stepBody)) && !n.place.isIn(n.decl.to(stepStmts)) {
			continue
		}
		steps := strings.Split(string(n.decl), "/")
		i, _ := strconv.Atoi(steps[0])
		j, _ := strconv.Atoi(steps[1])
		l = append(l, [2]string{ms[i].Name + "." + ms[i].Decls[j].Name, s.Module + "." + s.Name})
	}
	sort.Slice(l, func(i, j int) bool {
		if l[i][0] != l[j][0] {
			return l[i][0] < l[j][0]
		}
		return l[i][1] < l[j][1]
	})
	return slices.Compact(l)
}
