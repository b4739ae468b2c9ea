package parser

import "schemalens/api"

// decl returns the next declaration, or an error that ends before the next one.
func (p *parser) decl() api.Node {
	if !p.begins(p.decls) {
		return p.wrong(p.isDecl)
	}
	return p.decls[p.next()]()
}

func (p *parser) typeDecl() api.Node {
	n := p.start(api.NType)
	p.token(&n, upper)
	p.token(&n, "=")
	p.separated(&n, "|", func() { p.need(&n, p.at(upper), p.ctor) })
	return n
}

func (p *parser) ctor() api.Node {
	n := p.start(api.NCtor)
	if p.at("(") {
		p.take(&n)
		p.needType(&n)
		p.token(&n, ")")
	}
	return n
}

func (p *parser) tableDecl() api.Node {
	n := p.start(api.NTable)
	p.token(&n, lower)
	p.token(&n, "{")
	p.fields(&n)
	p.need(&n, p.at("key"), p.key)
	for p.at("ref") {
		n.Kids = append(n.Kids, p.ref())
	}
	if p.at("check") {
		n.Kids = append(n.Kids, p.check())
	}
	return n
}

// fields adds the columns of a table or the fields of a record type.
func (p *parser) fields(n *api.Node) {
	p.optionalList(n, "}", func() { p.need(n, p.at(lower), p.field) })
}

func (p *parser) field() api.Node {
	n := p.start(api.NField)
	p.token(&n, ":")
	p.needType(&n)
	return n
}

func (p *parser) key() api.Node {
	n := p.start(api.NKey)
	p.token(&n, "(")
	p.list(&n, ")", func() { p.token(&n, lower) })
	return n
}

func (p *parser) ref() api.Node {
	n := p.start(api.NRef)
	p.token(&n, lower)
	p.token(&n, "to")
	p.token(&n, lower)
	return n
}

func (p *parser) check() api.Node {
	n := p.start(api.NCheck)
	p.needExpr(&n)
	return n
}

func (p *parser) funDecl() api.Node {
	n := p.start(api.NFun)
	p.head(&n)
	p.optionalType(&n)
	p.token(&n, "=")
	p.needExpr(&n)
	return n
}

func (p *parser) procDecl() api.Node {
	n := p.start(api.NProc)
	p.head(&n)
	p.token(&n, "=")
	p.separated(&n, ";", func() { p.need(&n, p.begins(p.stmts), p.stmt) })
	return n
}

// head adds the name and the parameters of a function or a procedure.
func (p *parser) head(n *api.Node) {
	p.token(n, lower)
	p.token(n, "(")
	p.optionalList(n, ")", func() { p.need(n, p.at(lower), p.param) })
}

func (p *parser) param() api.Node {
	n := p.start(api.NParam)
	p.optionalType(&n)
	if p.at("=") {
		p.take(&n)
		p.needExpr(&n)
	}
	return n
}

func (p *parser) optionalType(n *api.Node) {
	if p.at(":") {
		p.take(n)
		p.needType(n)
	}
}

func (p *parser) needType(n *api.Node) {
	p.need(n, p.begins(p.types), p.typ)
}

func (p *parser) typ() api.Node {
	return p.nested(p.types[p.next()])
}

func (p *parser) typeName() api.Node {
	return p.start(api.NTypeName)
}

func (p *parser) typeList() api.Node {
	n := p.start(api.NTypeList)
	p.needType(&n)
	p.token(&n, "]")
	return n
}

func (p *parser) typeRecord() api.Node {
	n := p.start(api.NTypeRecord)
	p.fields(&n)
	return n
}

func (p *parser) stmt() api.Node {
	return p.stmts[p.next()]()
}

func (p *parser) insertStmt() api.Node {
	n := p.start(api.NInsert)
	p.token(&n, lower)
	p.needExpr(&n)
	return n
}

func (p *parser) deleteStmt() api.Node {
	n := p.start(api.NDelete)
	p.condition(&n)
	return n
}

func (p *parser) updateStmt() api.Node {
	n := p.start(api.NUpdate)
	p.condition(&n)
	p.token(&n, "set")
	p.needExpr(&n)
	return n
}

// condition adds the table of a statement and for which of its rows it is meant.
func (p *parser) condition(n *api.Node) {
	p.token(n, lower)
	p.token(n, "as")
	p.token(n, lower)
	p.token(n, "where")
	p.needExpr(n)
}
