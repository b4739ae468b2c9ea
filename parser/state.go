package parser

import (
	"slices"

	"schemalens/api"
	"schemalens/lexer"
)

// What the grammar calls the tokens of these kinds; it calls all others by their texts.
const (
	lower  = "lower"
	upper  = "Upper"
	number = "Number"
	text   = "String"
)

// A word is a token that is not a filler; leaves is the number of leaves for it and for
// the fillers before it.
type word struct {
	name   string
	token  api.Token
	leaves int
}

// A production returns the node of a part of the grammar. It is called only where the
// next token is one with which this part begins.
type production func() api.Node

// A parser holds the words and leaves that have not been added to the tree, and what was
// found wrong so far.
type parser struct {
	words    []word
	leaves   []api.Node
	end      int // the length of the text
	nesting  int
	problems []api.Problem

	// The productions among which the next token chooses, by the words with which they begin.
	decls, types, stmts, exprs, atoms map[string]production
}

func newParser(s string) *parser {
	p := &parser{end: len(s)}
	p.read(lexer.Tokens(s))
	p.decls = map[string]production{"type": p.typeDecl, "table": p.tableDecl, "fun": p.funDecl, "proc": p.procDecl}
	p.types = map[string]production{upper: p.typeName, "[": p.typeList, "{": p.typeRecord}
	p.stmts = map[string]production{"insert": p.insertStmt, "delete": p.deleteStmt, "update": p.updateStmt}
	p.exprs = map[string]production{"let": p.letExpr, "if": p.ifExpr, "match": p.matchExpr}
	p.atoms = map[string]production{
		number: p.literal, text: p.literal, "true": p.literal, "false": p.literal, "?": p.hole,
		"(": p.paren, lower: p.nameOrCall, upper: p.makeExpr, "{": p.braces, "[": p.brackets,
	}
	return p
}

// read makes words and leaves of the tokens of the text.
func (p *parser) read(tokens []api.Token) {
	p.leaves = make([]api.Node, len(tokens))
	leaves := 0
	for i, t := range tokens {
		p.leaves[i] = api.Node{Kind: t.Kind, Text: t.Text}
		leaves++
		if !lexer.Fits(t) {
			p.problems = append(p.problems, problem(t, api.CodeToken))
		}
		if t.Kind != api.Space && t.Kind != api.Comment && t.Kind != api.Bad {
			p.words = append(p.words, word{grammarName(t), t, leaves})
			leaves = 0
		}
	}
}

func grammarName(t api.Token) string {
	switch t.Kind {
	case api.Lower:
		return lower
	case api.Upper:
		return upper
	case api.Number:
		return number
	case api.String:
		return text
	}
	return t.Text
}

func (p *parser) hasNext() bool {
	return len(p.words) > 0
}

// next returns the name of the next token, or nothing at the end.
func (p *parser) next() string {
	if !p.hasNext() {
		return ""
	}
	return p.words[0].name
}

// at reports whether the next token has one of the names.
func (p *parser) at(names ...string) bool {
	return slices.Contains(names, p.next())
}

// before reports whether the tokens after the next one have these names.
func (p *parser) before(names ...string) bool {
	if len(p.words) <= len(names) {
		return false
	}
	for i, name := range names {
		if p.words[1+i].name != name {
			return false
		}
	}
	return true
}

// begins reports whether one of the productions begins with the next token.
func (p *parser) begins(l map[string]production) bool {
	return l[p.next()] != nil
}

// take adds the next token to a node.
func (p *parser) take(n *api.Node) {
	leaves := p.words[0].leaves
	n.Kids = append(n.Kids, p.leaves[:leaves]...)
	p.leaves = p.leaves[leaves:]
	p.words = p.words[1:]
}

// start returns a node that begins with the next token.
func (p *parser) start(kind int) api.Node {
	n := api.Node{Kind: kind}
	p.take(&n)
	return n
}

// token adds a token that is required.
func (p *parser) token(n *api.Node, name string) {
	if !p.at(name) {
		p.fail(n)
	}
	if p.at(name) {
		p.take(n)
	}
}

// need adds the node of a production that is required; begins tells whether the next
// token is one with which it begins.
func (p *parser) need(n *api.Node, begins bool, parse production) {
	if !begins {
		p.fail(n)
		return
	}
	n.Kids = append(n.Kids, parse())
}

// optionalList adds a list that may have no elements, and the bracket that ends it.
func (p *parser) optionalList(n *api.Node, bracket string, element func()) {
	if p.at(bracket) {
		p.take(n)
		return
	}
	p.list(n, bracket, element)
}

// list adds a list and the bracket that ends it; element adds one element.
func (p *parser) list(n *api.Node, bracket string, element func()) {
	element()
	p.listRest(n, bracket, element)
}

// listRest adds what follows the first element of a list.
func (p *parser) listRest(n *api.Node, bracket string, element func()) {
	for {
		if !p.at(",", bracket) {
			p.fail(n)
		}
		if !p.at(",") {
			break
		}
		p.take(n)
		element()
	}
	if p.at(bracket) {
		p.take(n)
	}
}

// separated adds elements with a separator between them that no bracket ends.
func (p *parser) separated(n *api.Node, separator string, element func()) {
	element()
	for p.at(separator) {
		p.take(n)
		element()
	}
}

// nested returns the node of a production that counts as a level of nesting.
func (p *parser) nested(parse production) api.Node {
	if p.nesting == api.MaxDepth {
		return p.wrong(p.isDecl)
	}
	p.nesting++
	n := parse()
	p.nesting--
	return n
}

// fail adds an error that ends before the next stop.
func (p *parser) fail(n *api.Node) {
	n.Kids = append(n.Kids, p.wrong(p.isStop))
}

// wrong reports the next token, or the end, and returns an NError with all tokens before
// the first one at which it ends.
func (p *parser) wrong(ends func(name string) bool) api.Node {
	where := api.Token{At: p.end}
	if p.hasNext() {
		where = p.words[0].token
	}
	p.problems = append(p.problems, problem(where, api.CodeSyntax))
	n := api.Node{Kind: api.NError}
	for p.hasNext() && !ends(p.next()) {
		p.take(&n)
	}
	return n
}

func problem(t api.Token, code int) api.Problem {
	return api.Problem{At: t.At, End: t.At + len(t.Text), Code: code}
}

// isDecl reports whether a decl begins with a word.
func (p *parser) isDecl(name string) bool {
	return p.decls[name] != nil
}

func (p *parser) isStop(name string) bool {
	switch name {
	case ")", "]", "}", ",", ";", "|", "then", "else", "in", "where", "set":
		return true
	}
	return p.isDecl(name)
}
