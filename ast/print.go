package ast

import (
	"strconv"
	"strings"

	"schemalens/api"
	"schemalens/lexer"
)

// A printer writes canonical sources, and records the first error of what it was given.
type printer struct {
	text    strings.Builder
	nesting int
	err     api.Errno
}

func (p *printer) done() (string, api.Errno) {
	if p.err != api.OK {
		return "", p.err
	}
	return p.text.String(), api.OK
}

func (p *printer) fail(err api.Errno) {
	if p.err == api.OK {
		p.err = err
	}
}

func (p *printer) write(pieces ...string) {
	for _, s := range pieces {
		p.text.WriteString(s)
	}
}

// list writes elements with a separator between them.
func list[T any](p *printer, l []T, separator string, write func(i int, x T)) {
	for i, x := range l {
		if i > 0 {
			p.write(separator)
		}
		write(i, x)
	}
}

// braces writes a list in braces, with blanks if it has elements.
func braces[T any](p *printer, l []T, write func(i int, x T)) {
	if len(l) == 0 {
		p.write("{}")
		return
	}
	p.write("{ ")
	list(p, l, ", ", write)
	p.write(" }")
}

// nested writes a part that counts as a level of nesting.
func (p *printer) nested(write func()) {
	if p.nesting == api.MaxDepth {
		p.fail(api.ErrLimit)
		return
	}
	p.nesting++
	write()
	p.nesting--
}

func (p *printer) word(s string) {
	if !isWord(s) {
		p.fail(api.ErrName)
	}
	p.write(s)
}

func (p *printer) capitalWord(s string) {
	if !isCapitalWord(s) {
		p.fail(api.ErrName)
	}
	p.write(s)
}

func (p *printer) wholeType(t api.Type) {
	if err := examine(t, kidsOfType, checkType); err != api.OK {
		p.fail(err)
		return
	}
	p.typ(t)
}

// typ writes a type that was examined.
func (p *printer) typ(t api.Type) {
	p.nested(func() {
		switch t.Kind {
		case api.TyInt:
			p.write("Int")
		case api.TyText:
			p.write("Text")
		case api.TyBool:
			p.write("Bool")
		case api.TySum:
			p.write(t.Name)
		case api.TyList:
			p.write("[")
			p.typ(t.Kids[0])
			p.write("]")
		case api.TyRecord:
			braces(p, t.Names, func(i int, name string) {
				p.write(name, ": ")
				p.typ(t.Kids[i])
			})
		}
	})
}

func (p *printer) wholeExpr(e api.Expr) {
	if err := examine(e, kidsOfExpr, checkExpr); err != api.OK {
		p.fail(err)
		return
	}
	p.expr(e)
}

// expr writes an expression that was examined at a place that requires no precedence.
func (p *printer) expr(e api.Expr) {
	p.nested(func() { p.bare(e) })
}

// operand writes an expression at a place that requires a precedence.
func (p *printer) operand(e api.Expr, required int) {
	if precedence(e) >= required {
		p.bare(e)
		return
	}
	p.write("(")
	p.expr(e)
	p.write(")")
}

// bare writes an expression without parentheses around it.
func (p *printer) bare(e api.Expr) {
	switch e.Kind {
	case api.EInt:
		p.write(strconv.Itoa(e.N))
	case api.EText:
		quoted, _ := lexer.Quote(e.S)
		p.write(quoted)
	case api.EBool:
		p.write(strconv.FormatBool(e.N == 1))
	case api.EVar:
		p.write(e.Name)
	case api.EHole:
		p.write("?")
	case api.EField:
		p.operand(e.Kids[0], fieldPrecedence)
		p.write(".", e.Name)
	case api.EOp:
		p.operation(e)
	case api.ELet:
		p.write("let ", e.Name, " = ")
		p.expr(e.Kids[0])
		p.write(" in ")
		p.expr(e.Kids[1])
	case api.EIf:
		p.write("if ")
		p.expr(e.Kids[0])
		p.write(" then ")
		p.expr(e.Kids[1])
		p.write(" else ")
		p.expr(e.Kids[2])
	default:
		p.bracketed(e)
	}
}

// bracketed writes an expression of a kind that has brackets around its parts.
func (p *printer) bracketed(e api.Expr) {
	switch e.Kind {
	case api.ECall:
		if e.S != "" {
			p.write(e.S, ".")
		}
		p.write(e.Name, "(")
		p.exprs(e.Kids)
		p.write(")")
	case api.EMake:
		p.write(e.Name)
		if len(e.Kids) > 0 {
			p.write("(")
			p.exprs(e.Kids)
			p.write(")")
		}
	case api.EList:
		p.write("[")
		p.exprs(e.Kids)
		p.write("]")
	case api.ERecord:
		braces(p, e.Names, p.pairOf(e.Kids))
	case api.EWith:
		p.write("{ ")
		p.expr(e.Kids[0])
		p.write(" with ")
		list(p, e.Names, ", ", p.pairOf(e.Kids[1:]))
		p.write(" }")
	case api.EComp:
		p.write("[")
		p.expr(e.Kids[0])
		p.write(" | ")
		list(p, e.Names, ", ", p.generatorOf(e.Kids[1:]))
		p.write("]")
	case api.EMatch:
		p.write("match ")
		p.expr(e.Kids[0])
		p.write(" ")
		braces(p, e.Names, p.armOf(e.Binds, e.Kids[1:]))
	}
}

func (p *printer) exprs(l []api.Expr) {
	list(p, l, ", ", func(_ int, e api.Expr) { p.expr(e) })
}

// pairOf returns what writes the field with an index and its name.
func (p *printer) pairOf(values []api.Expr) func(i int, name string) {
	return func(i int, name string) {
		p.write(name, " = ")
		p.expr(values[i])
	}
}

// generatorOf returns what writes the generator with an index and its variable.
func (p *printer) generatorOf(values []api.Expr) func(i int, name string) {
	return func(i int, name string) {
		if name != "" {
			p.write(name, " <- ")
		}
		p.expr(values[i])
	}
}

// armOf returns what writes the arm with an index and its constructor.
func (p *printer) armOf(binds []string, values []api.Expr) func(i int, name string) {
	return func(i int, name string) {
		p.write(name)
		if binds[i] != "" {
			p.write("(", binds[i], ")")
		}
		p.write(" -> ")
		p.expr(values[i])
	}
}

func (p *printer) operation(e api.Expr) {
	o, _ := operatorNamed(e.Name)
	if o.operands == 1 {
		p.nested(func() {
			p.write(e.Name, " ")
			p.operand(e.Kids[0], o.last)
		})
		return
	}
	p.operand(e.Kids[0], o.first)
	p.write(" ", e.Name, " ")
	p.operand(e.Kids[1], o.last)
}

func (p *printer) decl(d api.Decl) {
	if !declFits(d) {
		p.fail(api.ErrArg)
		return
	}
	switch d.Kind {
	case api.DType:
		p.write("type ")
		p.capitalWord(d.Name)
		p.write(" = ")
		list(p, d.Sum.Ctors, " | ", p.ctor)
	case api.DTable:
		p.table(d.Table)
	case api.DFun:
		p.head("fun ", d)
		p.annotation(d.Typed, d.Type)
		p.write(" = ")
		p.wholeExpr(d.Body)
	case api.DProc:
		p.head("proc ", d)
		p.write(" = ")
		list(p, d.Stmts, "; ", p.stmt)
	}
	p.write("\n")
}

func (p *printer) ctor(_ int, c api.Ctor) {
	p.capitalWord(c.Name)
	if c.Has {
		p.write("(")
		p.wholeType(c.Arg)
		p.write(")")
	}
}

func (p *printer) table(t api.Table) {
	p.write("table ")
	p.word(t.Name)
	p.write(" ")
	braces(p, t.Columns, func(_ int, c api.Column) {
		p.word(c.Name)
		p.write(": ")
		p.wholeType(c.Type)
	})
	p.write(" key(")
	list(p, t.Key, ", ", func(_ int, name string) { p.word(name) })
	p.write(")")
	for _, r := range t.Refs {
		p.write(" ref ")
		p.word(r.Column)
		p.write(" to ")
		p.word(r.Table)
	}
	if !EqualExpr(t.Check, noCheck()) {
		p.write(" check ")
		p.wholeExpr(t.Check)
	}
}

// head writes a function or a procedure up to the parameters.
func (p *printer) head(keyword string, d api.Decl) {
	p.write(keyword)
	p.word(d.Name)
	p.write("(")
	list(p, d.Params, ", ", p.param)
	p.write(")")
}

func (p *printer) param(_ int, x api.Param) {
	p.word(x.Name)
	p.annotation(x.Typed, x.Type)
	if x.Has {
		p.write(" = ")
		p.wholeExpr(x.Default)
	}
}

func (p *printer) annotation(typed bool, t api.Type) {
	if typed {
		p.write(": ")
		p.wholeType(t)
	}
}

func (p *printer) stmt(_ int, s api.Stmt) {
	if !stmtFits(s) {
		p.fail(api.ErrArg)
		return
	}
	switch s.Kind {
	case api.SInsert:
		p.write("insert ")
		p.word(s.Table)
		p.write(" ")
		p.wholeExpr(s.Value)
	case api.SDelete:
		p.write("delete ")
		p.condition(s)
	case api.SUpdate:
		p.write("update ")
		p.condition(s)
		p.write(" set ")
		p.wholeExpr(s.Value)
	}
}

// condition writes the table of a statement and for which of its rows it is meant.
func (p *printer) condition(s api.Stmt) {
	p.word(s.Table)
	p.write(" as ")
	p.word(s.Bind)
	p.write(" where ")
	p.wholeExpr(s.Cond)
}
