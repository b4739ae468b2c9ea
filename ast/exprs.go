package ast

import (
	"strconv"

	"schemalens/api"
	"schemalens/lexer"
)

// A rule says which expression a node of some kind is: its kind, and how the fields that
// follow from the node are filled.
type rule struct {
	kind int
	fill func(e *api.Expr, n node)
}

// A lowering translates nodes by the rules for their kinds.
type lowering struct{ rules map[int]rule }

func newLowering() *lowering {
	l := &lowering{}
	l.rules = map[int]rule{
		api.NLiteral: {api.EBad, literal},
		api.NHole:    {api.EHole, l.plain},
		api.NName:    {api.EVar, l.plain},
		api.NParen:   {api.EBad, l.paren},
		api.NCall:    {api.ECall, l.call},
		api.NMake:    {api.EMake, l.plain},
		api.NRecord:  {api.ERecord, l.pairs},
		api.NWith:    {api.EWith, l.pairs},
		api.NDot:     {api.EField, l.plain},
		api.NList:    {api.EList, l.plain},
		api.NComp:    {api.EComp, l.comprehension},
		api.NLet:     {api.ELet, l.plain},
		api.NIf:      {api.EIf, l.plain},
		api.NMatch:   {api.EMatch, l.match},
		api.NBinary:  {api.EOp, l.operation},
		api.NUnary:   {api.EOp, l.operation},
	}
	return l
}

// expr returns the expression of a part.
func (l *lowering) expr(n node) api.Expr {
	r, ok := l.rules[n.kind]
	if !ok || n.hasError() {
		return bad(n)
	}
	e := api.Expr{Kind: r.kind, At: n.at, End: n.end}
	r.fill(&e, n)
	return e
}

func bad(n node) api.Expr {
	return api.Expr{Kind: api.EBad, At: n.at, End: n.end}
}

// value returns the expression with which a node ends; where the node has an error, it
// cannot be told which one that was meant to be.
func (l *lowering) value(n node) api.Expr {
	if n.hasError() {
		return bad(n)
	}
	return l.expr(n.last())
}

// operands returns the expressions of the parts that are some, of a node without errors.
func (l *lowering) operands(n node) []api.Expr {
	var all []api.Expr
	for _, p := range n.parts {
		if _, ok := l.rules[p.kind]; ok {
			all = append(all, l.expr(p))
		}
	}
	return all
}

// plain fills an expression that consists of at most one name and its operands.
func (l *lowering) plain(e *api.Expr, n node) {
	e.Name = n.name(0)
	e.Kids = l.operands(n)
}

func literal(e *api.Expr, n node) {
	leaf := n.last()
	if !lexer.Fits(api.Token{Kind: leaf.kind, Text: leaf.text}) {
		return
	}
	switch leaf.kind {
	case api.Number:
		e.Kind = api.EInt
		e.N, _ = strconv.Atoi(leaf.text)
	case api.String:
		e.Kind = api.EText
		e.S, _ = lexer.Unquote(leaf.text)
	case api.Keyword:
		e.Kind = api.EBool
		if leaf.text == "true" {
			e.N = 1
		}
	}
}

func (l *lowering) paren(e *api.Expr, n node) {
	*e = l.operands(n)[0]
}

func (l *lowering) call(e *api.Expr, n node) {
	l.plain(e, n)
	if len(n.names()) == 2 {
		e.S, e.Name = n.name(0), n.name(1)
	}
}

func (l *lowering) pairs(e *api.Expr, n node) {
	e.Kids = l.operands(n)
	for _, p := range n.partsOf(api.NPair) {
		e.Names = append(e.Names, p.name(0))
		e.Kids = append(e.Kids, l.value(p))
	}
}

func (l *lowering) comprehension(e *api.Expr, n node) {
	e.Kids = l.operands(n)
	for _, p := range n.partsOf(api.NGen) {
		// A generator without "<-" is a condition, which has no name of its own.
		e.Names = append(e.Names, p.name(0))
		e.Kids = append(e.Kids, l.value(p))
	}
}

func (l *lowering) match(e *api.Expr, n node) {
	e.Kids = l.operands(n)
	for _, p := range n.partsOf(api.NArm) {
		e.Names = append(e.Names, p.name(0))
		e.Binds = append(e.Binds, p.name(1))
		e.Kids = append(e.Kids, l.value(p))
	}
}

func (l *lowering) operation(e *api.Expr, n node) {
	e.Name = n.partsOf(api.Symbol, api.Keyword)[0].text
	e.Kids = l.operands(n)
}
