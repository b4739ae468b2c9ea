package names

import (
	"slices"
	"strconv"

	"schemalens/api"
	"schemalens/lexer"
)

// Free returns the free variables of an expression.
func Free(e api.Expr) []string {
	var l []string
	seen := map[string]bool{}
	enter := func(x *api.Expr, in *scope) {
		if isVariable(x) && in.find(x.Name) == nil && !seen[x.Name] {
			seen[x.Name] = true
			l = append(l, x.Name)
		}
	}
	tour{unowned, enter, func(*api.Expr, branch) {}}.through(&e, nil)
	return l
}

// Subst replaces a free variable without capturing names.
func Subst(e api.Expr, name string, by api.Expr) api.Expr {
	e = clone(e)
	s := newSubstitution(name, Free(by))
	tour{unowned, s.enter, s.before}.through(&e, nil)
	s.rename()
	for _, x := range s.replaced {
		*x = clone(by)
	}
	return e
}

// Fresh returns a name that is not used.
func Fresh(want string, used []string) string {
	return newNamer(used).fresh(want)
}

// A namer chooses names that are not used, and each of them once. It counts the numbers
// that it has tried for a name, since those will never be free again.
type namer struct {
	used  map[string]bool
	tried map[string]int
}

func newNamer(used []string) namer {
	n := namer{map[string]bool{}, map[string]int{}}
	for _, name := range used {
		n.used[name] = true
	}
	return n
}

func (n namer) fresh(want string) string {
	name := want
	for n.used[name] || lexer.IsKeyword(name) {
		n.tried[want]++
		digits := strconv.Itoa(n.tried[want])
		name = want[:min(len(want), api.MaxWord-len(digits))] + digits
	}
	n.used[name] = true
	return name
}

// unowned makes the symbol of a variable of which only the name matters.
func unowned(name string, _ int) Symbol {
	return Symbol{Name: name}
}

// isVariable reports whether an expression is an EVar with a name.
func isVariable(e *api.Expr) bool {
	return e.Kind == api.EVar && e.Name != ""
}

// A substitution notes what has to be changed in an expression.
type substitution struct {
	name      string
	free      map[string]bool // in what is put in
	namer     namer
	variables []*scope
	captures  map[*scope]bool        // for variables with a replaced EVar in their scope
	meaning   map[*scope][]*api.Expr // the EVars that mean a variable
	replaced  []*api.Expr
}

func newSubstitution(name string, free []string) *substitution {
	s := &substitution{
		name:     name,
		free:     map[string]bool{},
		namer:    newNamer(append(free, name)),
		captures: map[*scope]bool{},
		meaning:  map[*scope][]*api.Expr{},
	}
	for _, f := range free {
		s.free[f] = true
	}
	return s
}

func (s *substitution) enter(e *api.Expr, in *scope) {
	if !isVariable(e) {
		return
	}
	s.namer.used[e.Name] = true
	if v := in.find(e.Name); v != nil {
		s.meaning[v] = append(s.meaning[v], e)
		return
	}
	if e.Name != s.name {
		return
	}
	s.replaced = append(s.replaced, e)
	for v := range in.variables() {
		if _, known := s.captures[v]; known {
			break // and so are those further out
		}
		s.captures[v] = s.free[v.Name]
	}
}

func (s *substitution) before(_ *api.Expr, b branch) {
	if b.in != b.outer {
		s.variables = append(s.variables, b.in)
		s.namer.used[b.in.Name] = true
	}
}

// rename gives new names to the variables that would capture free ones.
func (s *substitution) rename() {
	for _, v := range s.variables {
		if !s.captures[v] {
			continue
		}
		name := s.namer.fresh(v.Name)
		*v.written = name
		for _, e := range s.meaning[v] {
			e.Name = name
		}
	}
}

// clone returns a copy of an expression that shares no memory with it.
func clone(e api.Expr) api.Expr {
	e.Names = slices.Clone(e.Names)
	e.Binds = slices.Clone(e.Binds)
	e.Kids = slices.Clone(e.Kids)
	for i, k := range e.Kids {
		e.Kids[i] = clone(k)
	}
	return e
}
