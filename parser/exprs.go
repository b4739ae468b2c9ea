package parser

import "schemalens/api"

func (p *parser) needExpr(n *api.Node) {
	p.need(n, p.beginsExpr(), p.expr)
}

func (p *parser) beginsExpr() bool {
	return p.begins(p.exprs) || p.beginsOperand()
}

func (p *parser) expr() api.Node {
	if p.begins(p.exprs) {
		return p.nested(p.exprs[p.next()])
	}
	return p.nested(p.or)
}

func (p *parser) letExpr() api.Node {
	n := p.start(api.NLet)
	p.token(&n, lower)
	p.token(&n, "=")
	p.needExpr(&n)
	p.token(&n, "in")
	p.needExpr(&n)
	return n
}

func (p *parser) ifExpr() api.Node {
	n := p.start(api.NIf)
	p.needExpr(&n)
	p.token(&n, "then")
	p.needExpr(&n)
	p.token(&n, "else")
	p.needExpr(&n)
	return n
}

func (p *parser) matchExpr() api.Node {
	n := p.start(api.NMatch)
	p.needExpr(&n)
	p.token(&n, "{")
	p.list(&n, "}", func() { p.need(&n, p.at(upper), p.arm) })
	return n
}

func (p *parser) arm() api.Node {
	n := p.start(api.NArm)
	if p.at("(") {
		p.take(&n)
		p.token(&n, lower)
		p.token(&n, ")")
	}
	p.token(&n, "->")
	p.needExpr(&n)
	return n
}

func (p *parser) or() api.Node {
	return p.chain(p.and, p.beginsOperand, "or")
}

func (p *parser) and() api.Node {
	return p.chain(p.not, p.beginsOperand, "and")
}

func (p *parser) not() api.Node {
	if p.at("not") {
		return p.nested(p.negation)
	}
	return p.cmp()
}

func (p *parser) negation() api.Node {
	n := p.start(api.NUnary)
	p.need(&n, p.beginsOperand(), p.not)
	return n
}

func (p *parser) cmp() api.Node {
	left := p.sum()
	if p.at("==", "!=", "<", "<=") {
		return p.binary(left, p.sum, p.beginsAtom)
	}
	return left
}

func (p *parser) sum() api.Node {
	return p.chain(p.product, p.beginsAtom, "+", "-", "++")
}

func (p *parser) product() api.Node {
	return p.chain(p.dot, p.beginsAtom, "*")
}

// chain returns operands with operators between them, which group to the left.
func (p *parser) chain(operand production, begins func() bool, operators ...string) api.Node {
	left := operand()
	for p.at(operators...) {
		left = p.binary(left, operand, begins)
	}
	return left
}

// binary returns the node of the operator that follows its left operand; begins tells
// whether the next token is one with which the right one begins.
func (p *parser) binary(left api.Node, right production, begins func() bool) api.Node {
	n := api.Node{Kind: api.NBinary, Kids: []api.Node{left}}
	p.take(&n)
	p.need(&n, begins(), right)
	return n
}

// beginsOperand reports whether the next token can begin an operand of or, and, or not.
func (p *parser) beginsOperand() bool {
	return p.at("not") || p.beginsAtom()
}

// beginsAtom reports whether the next token can begin an operand of any other operator.
func (p *parser) beginsAtom() bool {
	return p.begins(p.atoms)
}

func (p *parser) dot() api.Node {
	left := p.atoms[p.next()]()
	for p.at(".") {
		n := api.Node{Kind: api.NDot, Kids: []api.Node{left}}
		p.take(&n)
		p.token(&n, lower)
		left = n
	}
	return left
}

func (p *parser) literal() api.Node {
	return p.start(api.NLiteral)
}

func (p *parser) hole() api.Node {
	return p.start(api.NHole)
}

func (p *parser) paren() api.Node {
	n := p.start(api.NParen)
	p.needExpr(&n)
	p.token(&n, ")")
	return n
}

func (p *parser) nameOrCall() api.Node {
	switch {
	case p.before(".", lower, "("):
		n := p.start(api.NCall)
		p.take(&n)
		p.take(&n)
		p.arguments(&n)
		return n
	case p.before("("):
		n := p.start(api.NCall)
		p.arguments(&n)
		return n
	}
	return p.start(api.NName)
}

func (p *parser) arguments(n *api.Node) {
	p.take(n)
	p.optionalList(n, ")", func() { p.needExpr(n) })
}

func (p *parser) makeExpr() api.Node {
	n := p.start(api.NMake)
	if p.at("(") {
		p.take(&n)
		p.needExpr(&n)
		p.token(&n, ")")
	}
	return n
}

func (p *parser) braces() api.Node {
	if p.before("}") || p.before(lower, "=") {
		n := p.start(api.NRecord)
		p.optionalList(&n, "}", func() { p.needPair(&n) })
		return n
	}
	n := p.start(api.NWith)
	p.needExpr(&n)
	p.token(&n, "with")
	p.list(&n, "}", func() { p.needPair(&n) })
	return n
}

func (p *parser) needPair(n *api.Node) {
	p.need(n, p.at(lower), p.pair)
}

func (p *parser) pair() api.Node {
	n := p.start(api.NPair)
	p.token(&n, "=")
	p.needExpr(&n)
	return n
}

// brackets returns a list or a comprehension, between which what follows the first
// expression decides.
func (p *parser) brackets() api.Node {
	n := p.start(api.NList)
	if p.at("]") {
		p.take(&n)
		return n
	}
	p.needExpr(&n)
	if !p.at("|") {
		p.listRest(&n, "]", func() { p.needExpr(&n) })
		return n
	}
	n.Kind = api.NComp
	p.take(&n)
	p.list(&n, "]", func() { p.need(&n, p.beginsExpr(), p.gen) })
	return n
}

func (p *parser) gen() api.Node {
	n := api.Node{Kind: api.NGen}
	if p.at(lower) && p.before("<-") {
		p.take(&n)
		p.take(&n)
	}
	p.needExpr(&n)
	return n
}
