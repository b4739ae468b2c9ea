package names

import (
	"slices"
	"strconv"
	"strings"

	"schemalens/api"
	"schemalens/lexer"
)

func modelOfExpr(e api.Expr) *model {
	m := &model{}
	m.expr(e, "")
	return m
}

// isFree reports whether a name is an EVar that means no variable of the expression.
func (m *model) isFree(n modelName) bool {
	return !n.declared && n.symbol.Kind == SymLocal && m.variable(n.symbol.Name, n.place) < 0
}

func modelFree(e api.Expr) []string {
	m := modelOfExpr(e)
	var l []string
	for _, n := range m.names {
		if m.isFree(n) && !slices.Contains(l, n.symbol.Name) {
			l = append(l, n.symbol.Name)
		}
	}
	return l
}

func modelFresh(want string, used []string) string {
	fits := func(s string) bool { return !slices.Contains(used, s) && !lexer.IsKeyword(s) }
	if fits(want) {
		return want
	}
	for k := 1; ; k++ {
		digits := strconv.Itoa(k)
		name := want
		if len(name) > 16-len(digits) {
			name = name[:16-len(digits)]
		}
		if fits(name + digits) {
			return name + digits
		}
	}
}

// A modelSubst says which places of an expression change.
type modelSubst struct {
	m        *model
	replaced map[place]bool
	renamed  map[int]string // by the indices of the variables
	by       api.Expr
}

func modelSubstitute(e api.Expr, name string, by api.Expr) api.Expr {
	s := modelSubst{modelOfExpr(e), map[place]bool{}, map[int]string{}, by}
	used := append([]string{name}, modelFree(by)...)
	for _, n := range s.m.names {
		if n.symbol.Kind == SymLocal {
			used = append(used, n.symbol.Name)
		}
		if s.m.isFree(n) && n.symbol.Name == name {
			s.replaced[n.place] = true
		}
	}
	for i, n := range s.m.names {
		captures := false
		for p := range s.replaced {
			captures = captures || slices.ContainsFunc(n.scopes, p.isIn)
		}
		if captures && slices.Contains(modelFree(by), n.symbol.Name) {
			s.renamed[i] = modelFresh(n.symbol.Name, used)
			used = append(used, s.renamed[i])
		}
	}
	return s.rebuild(e, "")
}

func (s modelSubst) rebuild(e api.Expr, at place) api.Expr {
	if s.replaced[at] && e.Kind == api.EVar {
		return s.by
	}
	if e.Kind == api.EVar {
		if name, ok := s.renamed[s.m.variable(e.Name, at)]; ok {
			e.Name = name
		}
	}
	e.Names, e.Binds, e.Kids = slices.Clone(e.Names), slices.Clone(e.Binds), slices.Clone(e.Kids)
	for i, name := range s.renamed {
		switch n := s.m.names[i]; {
		case n.place != at:
		case e.Kind == api.ELet:
			e.Name = name
		case e.Kind == api.EComp:
			e.Names[n.order] = name
		case e.Kind == api.EMatch:
			for k := range e.Binds {
				if n.scopes[0] == at.to(k+1) {
					e.Binds[k] = name
				}
			}
		}
	}
	for i, k := range e.Kids {
		e.Kids[i] = s.rebuild(k, at.to(i))
	}
	return e
}

// nameless writes an expression down without positions and without the names of variables
// that it declares: their EVars say how many variables further out they are declared. A
// free EVar with a name is written as is stated.
func nameless(e api.Expr, name, stated string) string {
	return modelOfExpr(e).nameless(e, "", name, stated)
}

func (m *model) nameless(e api.Expr, at place, name, stated string) string {
	names, binds := slices.Clone(e.Names), slices.Clone(e.Binds)
	own := e.Name
	switch e.Kind {
	case api.EVar:
		if i := m.variable(e.Name, at); i >= 0 {
			own = "#" + strconv.Itoa(slices.Index(m.variables(at), i))
		} else if e.Name == name && name != "" {
			return stated
		}
	case api.ELet:
		own = "_"
	case api.EComp:
		eraseAll(names)
	case api.EMatch:
		eraseAll(binds)
	}
	var kids []string
	for i, k := range e.Kids {
		kids = append(kids, m.nameless(k, at.to(i), name, stated))
	}
	return strconv.Itoa(e.Kind) + own + "." + strconv.Itoa(e.N) + e.S + "{" + strings.Join(names, ",") + "|" +
		strings.Join(binds, ",") + "}(" + strings.Join(kids, " ") + ")"
}

func eraseAll(names []string) {
	for i, name := range names {
		if name != "" {
			names[i] = "_"
		}
	}
}
