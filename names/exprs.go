package names

import (
	"iter"

	"schemalens/api"
)

// A branch is one of the Kids of an expression, with the names that the expression has
// directly before it in the order of names.
type branch struct {
	kid   int
	ctor  string // the constructor of an arm
	outer *scope // what was in scope before
	in    *scope // what is in scope in the Kid: outer, or a variable more
}

// A maker makes the symbol of a variable with a name that is declared at an offset.
type maker func(name string, at int) Symbol

// branches yields the Kids of an expression in the order of names.
func branches(e *api.Expr, in *scope, local maker) iter.Seq[branch] {
	switch names, kids := len(e.Names), len(e.Kids); {
	case e.Kind == api.ELet && kids == 2:
		return letBranches(e, in, local)
	case e.Kind == api.EComp && kids == 1+names:
		return compBranches(e, in, local)
	case e.Kind == api.EMatch && kids == 1+names && len(e.Binds) == names:
		return matchBranches(e, in, local)
	}
	return func(yield func(branch) bool) {
		for i := range e.Kids {
			if !yield(branch{kid: i, outer: in, in: in}) {
				return
			}
		}
	}
}

func letBranches(e *api.Expr, in *scope, local maker) iter.Seq[branch] {
	return func(yield func(branch) bool) {
		if yield(branch{kid: 0, outer: in, in: in}) {
			yield(branch{kid: 1, outer: in, in: in.with(local(e.Name, e.At), &e.Name)})
		}
	}
}

func compBranches(e *api.Expr, in *scope, local maker) iter.Seq[branch] {
	return func(yield func(branch) bool) {
		outer, inner := in, in
		for i, name := range e.Names {
			if !yield(branch{kid: i + 1, outer: outer, in: inner}) {
				return
			}
			outer, inner = inner, inner.with(local(name, e.Kids[i+1].End), &e.Names[i])
		}
		yield(branch{kid: 0, outer: outer, in: inner})
	}
}

func matchBranches(e *api.Expr, in *scope, local maker) iter.Seq[branch] {
	return func(yield func(branch) bool) {
		if !yield(branch{kid: 0, outer: in, in: in}) {
			return
		}
		for i, ctor := range e.Names {
			inner := in.with(local(e.Binds[i], e.Kids[i+1].End), &e.Binds[i])
			if !yield(branch{kid: i + 1, ctor: ctor, outer: in, in: inner}) {
				return
			}
		}
	}
}

// A tour goes through an expression in the order of names.
type tour struct {
	local  maker
	enter  func(e *api.Expr, in *scope) // is told each expression before what is in it
	before func(e *api.Expr, b branch)  // is told each branch of an expression before its Kid
}

func (t tour) through(e *api.Expr, in *scope) {
	t.enter(e, in)
	for b := range branches(e, in, t.local) {
		t.before(e, b)
		t.through(&e.Kids[b.kid], b.in)
	}
}
