package names

import (
	"math/rand/v2"
	"strings"

	"schemalens/api"
)

// An author makes modules, types and expressions of any contents.
type author struct{ random *rand.Rand }

func newAuthor(seed uint64) *author {
	return &author{rand.New(rand.NewPCG(11, seed))}
}

// pick returns a word; "_" stands for the empty string.
func (a *author) pick(words string) string {
	l := strings.Fields(words)
	if w := l[a.random.IntN(len(l))]; w != "_" {
		return w
	}
	return ""
}

func (a *author) chance(n int) bool { return a.random.IntN(n) == 0 }

func (a *author) at() int { return a.random.IntN(14) - 1 }

func (a *author) word() string {
	if a.chance(12) {
		return a.pick("_ let x1 y1 x2 abcdefghijklmnop abcdefghijklmnoq A T")
	}
	return a.pick("x y z t")
}

func (a *author) capital() string { return a.pick("A B C T U Int _") }

func (a *author) function() string { return a.pick("f g x t size sort _") }

func (a *author) words(n int, word func() string) []string {
	var l []string
	for range n {
		l = append(l, word())
	}
	return l
}

func (a *author) exprs(n, budget int) []api.Expr {
	var l []api.Expr
	for range n {
		l = append(l, a.expr(budget))
	}
	return l
}

// expr returns an expression with the Kids, Names and Binds of its kind.
func (a *author) expr(budget int) api.Expr {
	e := api.Expr{Kind: a.random.IntN(api.EBad + 1), At: a.at()}
	e.End = e.At + a.random.IntN(10) - 1
	if budget <= 0 || a.chance(5) {
		e.Kind = api.EVar
	}
	budget--
	n := a.random.IntN(4)
	switch e.Kind {
	case api.EVar:
		e.Name = a.word()
	case api.ECall:
		e.Name, e.S, e.Kids = a.function(), a.pick("_ _ a b c"), a.exprs(n, budget)
	case api.EMake:
		e.Name, e.Kids = a.capital(), a.exprs(n/2, budget)
	case api.ERecord:
		e.Names, e.Kids = a.words(n, a.word), a.exprs(n, budget)
	case api.EWith:
		e.Names, e.Kids = a.words(n+1, a.word), a.exprs(n+2, budget)
	case api.EField:
		e.Name, e.Kids = a.word(), a.exprs(1, budget)
	case api.EList:
		e.Kids = a.exprs(n, budget)
	case api.EComp:
		e.Names, e.Kids = a.words(n+1, a.variable), a.exprs(n+2, budget)
	case api.ELet:
		e.Name, e.Kids = a.word(), a.exprs(2, budget)
	case api.EIf:
		e.Kids = a.exprs(3, budget)
	case api.EMatch:
		e.Names, e.Binds, e.Kids = a.words(n+1, a.capital), a.words(n+1, a.variable), a.exprs(n+2, budget)
	case api.EOp:
		e.Name, e.Kids = "+", a.exprs(2, budget)
	}
	return e
}

// variable returns a word or, more often than word, the empty string.
func (a *author) variable() string {
	if a.chance(4) {
		return ""
	}
	return a.word()
}

func (a *author) typ(budget int) api.Type {
	t := api.Type{Kind: a.random.IntN(8), Name: a.capital()}
	for range a.random.IntN(3) {
		if budget > 0 {
			t.Kids = append(t.Kids, a.typ(budget-1))
		}
	}
	return t
}

func (a *author) decl() api.Decl {
	d := api.Decl{Kind: a.random.IntN(4), Name: a.function(), NameAt: a.at(), At: a.at(), Typed: a.chance(2), Type: a.typ(1), Body: a.expr(3)}
	d.End = d.At + a.random.IntN(16)
	if a.chance(2) {
		d.Name = a.capital()
	}
	if a.chance(20) {
		d.Kind = a.pickInt(-1, 4, 99)
	}
	d.Sum.Name, d.Table.Name = "S", "s"
	for range a.random.IntN(4) {
		d.Sum.Ctors = append(d.Sum.Ctors, api.Ctor{Name: a.capital(), Has: a.chance(2), Arg: a.typ(1)})
		d.Table.Columns = append(d.Table.Columns, api.Column{Name: a.word(), Type: a.typ(1)})
		d.Table.Key = append(d.Table.Key, a.word())
		d.Table.Refs = append(d.Table.Refs, api.Ref{Column: a.word(), Table: a.function()})
		p := api.Param{Name: a.word(), Typed: a.chance(2), Type: a.typ(1), Has: a.chance(2), Default: a.expr(1), At: a.at(), End: a.at()}
		d.Params = append(d.Params, p)
		d.Stmts = append(d.Stmts, a.stmt())
	}
	d.Table.Check = a.expr(2)
	return d
}

func (a *author) pickInt(l ...int) int { return l[a.random.IntN(len(l))] }

func (a *author) stmt() api.Stmt {
	s := api.Stmt{Kind: a.random.IntN(3), Table: a.function(), Bind: a.variable(), Cond: a.expr(2), Value: a.expr(2), At: a.at()}
	s.End = s.At + a.random.IntN(10)
	if a.chance(20) {
		s.Kind = a.pickInt(-1, 3)
	}
	if s.Kind != api.SInsert && s.Kind != api.SUpdate {
		s.Value = a.expr(0) // no variable is declared in it
	}
	return s
}

func (a *author) modules() []api.Module {
	var ms []api.Module
	for range a.random.IntN(4) {
		m := api.Module{Name: a.pick("a a b b c _")}
		for range a.random.IntN(5) {
			m.Decls = append(m.Decls, a.decl())
		}
		ms = append(ms, m)
	}
	return ms
}
