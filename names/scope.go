package names

import "iter"

// A scope is the innermost variable at a place, with the scope around it; without any
// variable, it is nil.
type scope struct {
	Symbol
	written *string // where an expression has its name
	outer   *scope
}

// with returns the scope within s that begins with a variable; one without a name is none.
func (s *scope) with(v Symbol, written *string) *scope {
	if v.Name == "" {
		return s
	}
	return &scope{v, written, s}
}

// variables yields all variables in scope, also those that are hidden, from the innermost
// to the outermost one.
func (s *scope) variables() iter.Seq[*scope] {
	return func(yield func(*scope) bool) {
		for v := s; v != nil; v = v.outer {
			if !yield(v) {
				return
			}
		}
	}
}

// find returns the innermost variable with a name, or nil.
func (s *scope) find(name string) *scope {
	for v := range s.variables() {
		if v.Name == name {
			return v
		}
	}
	return nil
}
