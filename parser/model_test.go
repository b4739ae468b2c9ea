package parser

import (
	"regexp"
	"slices"
	"strings"

	"schemalens/api"
	"schemalens/lexer"
)

// grammar is the grammar as the chapter writes it down.
const grammar = `
module  = { decl }                                                                      NModule
decl    = "type" Upper "=" ctor { "|" ctor }                                            NType
        | "table" lower "{" [ field { "," field } ] "}" key { ref } [ check ]           NTable
        | "fun" lower "(" [ param { "," param } ] ")" [ ":" type ] "=" expr             NFun
        | "proc" lower "(" [ param { "," param } ] ")" "=" stmt { ";" stmt }            NProc
ctor    = Upper [ "(" type ")" ]                                                        NCtor
field   = lower ":" type                                                                NField
key     = "key" "(" lower { "," lower } ")"                                             NKey
ref     = "ref" lower "to" lower                                                        NRef
check   = "check" expr                                                                  NCheck
param   = lower [ ":" type ] [ "=" expr ]                                               NParam
type    = Upper                                                                         NTypeName
        | "[" type "]"                                                                  NTypeList
        | "{" [ field { "," field } ] "}"                                               NTypeRecord
stmt    = "insert" lower expr                                                           NInsert
        | "delete" lower "as" lower "where" expr                                        NDelete
        | "update" lower "as" lower "where" expr "set" expr                             NUpdate
expr    = "let" lower "=" expr "in" expr                                                NLet
        | "if" expr "then" expr "else" expr                                             NIf
        | "match" expr "{" arm { "," arm } "}"                                          NMatch
        | or
arm     = Upper [ "(" lower ")" ] "->" expr                                             NArm
or      = and { "or" and }                                                              NBinary
and     = not { "and" not }                                                             NBinary
not     = "not" not                                                                     NUnary
        | cmp
cmp     = sum [ ( "==" | "!=" | "<" | "<=" ) sum ]                                      NBinary
sum     = product { ( "+" | "-" | "++" ) product }                                      NBinary
product = dot { "*" dot }                                                               NBinary
dot     = atom { "." lower }                                                            NDot
atom    = Number | String | "true" | "false"                                            NLiteral
        | "?"                                                                           NHole
        | "(" expr ")"                                                                  NParen
        | lower                                                                         NName
        | lower "(" [ expr { "," expr } ] ")"                                           NCall
        | lower "." lower "(" [ expr { "," expr } ] ")"                                 NCall
        | Upper [ "(" expr ")" ]                                                        NMake
        | "{" [ pair { "," pair } ] "}"                                                 NRecord
        | "{" expr "with" pair { "," pair } "}"                                         NWith
        | "[" [ expr { "," expr } ] "]"                                                 NList
        | "[" expr "|" gen { "," gen } "]"                                              NComp
pair    = lower "=" expr                                                                NPair
gen     = lower "<-" expr | expr                                                        NGen
`

// What an item of the right side of a production is.
const (
	aToken   = iota // name: a text in quotes, or a kind of token
	aPart           // name: a production
	anOption        // of alternatives, mostly of one
	aRepetition
	aGroup
)

type item struct {
	what         int
	name         string
	alternatives [][]item
}

// An alternative of a production; the kind is 0 if it makes no node of its own.
type alternative struct {
	kind  int
	items []item
}

// productions returns the alternatives of each production of the grammar.
func productions() map[string][]alternative {
	all := map[string][]alternative{}
	name := ""
	for line := range strings.Lines(strings.TrimSpace(grammar)) {
		parts := regexp.MustCompile(`"[^"]+"|[A-Za-z]+|[^ \n]`).FindAllString(line, -1)
		kind := kinds[parts[len(parts)-1]]
		if kind != 0 {
			parts = parts[:len(parts)-1]
		}
		if parts[0] != "|" {
			name = parts[0]
			parts = parts[1:]
		}
		alternatives, _ := readAlternatives(parts[1:])
		for _, items := range alternatives {
			all[name] = append(all[name], alternative{kind, items})
		}
	}
	return all
}

// readAlternatives reads up to a closing bracket or the end, and returns what follows.
func readAlternatives(parts []string) ([][]item, []string) {
	l := [][]item{nil}
	brackets := map[string]int{"[": anOption, "{": aRepetition, "(": aGroup}
	for len(parts) > 0 {
		part := parts[0]
		parts = parts[1:]
		last := &l[len(l)-1]
		switch {
		case strings.Contains("]})", part):
			return l, parts
		case part == "|":
			l = append(l, nil)
		case strings.Contains("[{(", part):
			var inner [][]item
			inner, parts = readAlternatives(parts)
			*last = append(*last, item{brackets[part], "", inner})
		case strings.Contains("lower Upper Number String", part):
			*last = append(*last, item{aToken, part, nil})
		case part[0] == '"':
			*last = append(*last, item{aToken, part[1 : len(part)-1], nil})
		default:
			*last = append(*last, item{aPart, part, nil})
		}
	}
	return l, nil
}

// A rulebook is the grammar with the tokens with which its productions begin.
type rulebook struct {
	productions map[string][]alternative
	known       map[string][]string
}

func newRulebook() *rulebook {
	return &rulebook{productions(), map[string][]string{}}
}

// first returns the tokens with which an item begins.
func (r *rulebook) first(x item) []string {
	var l []string
	switch x.what {
	case aToken:
		return []string{x.name}
	case aPart:
		if l, ok := r.known[x.name]; ok {
			return l
		}
		for _, a := range r.productions[x.name] {
			l = append(l, r.first(a.items[0])...)
		}
		r.known[x.name] = l
	default:
		for _, items := range x.alternatives {
			l = append(l, r.first(items[0])...)
		}
	}
	return l
}

// A model parses as the chapter describes it, item by item of the grammar.
type model struct {
	rules    *rulebook
	tokens   []api.Token // without fillers
	before   [][]api.Node
	at       int
	nesting  int
	end      int
	problems []api.Problem
	// Whether the atom that begins with the token of this number is a comprehension.
	comprehensions map[int]bool
}

func newModel(r *rulebook, s string) (*model, []api.Node) {
	m := &model{rules: r, end: len(s), comprehensions: map[int]bool{}}
	var fillers []api.Node
	for _, t := range lexer.Tokens(s) {
		if !lexer.Fits(t) {
			m.problems = append(m.problems, api.Problem{At: t.At, End: t.At + len(t.Text), Code: api.CodeToken})
		}
		if isFiller(t.Kind) {
			fillers = append(fillers, api.Node{Kind: t.Kind, Text: t.Text})
			continue
		}
		m.tokens = append(m.tokens, t)
		m.before = append(m.before, fillers)
		fillers = nil
	}
	return m, fillers
}

// modelParse follows P8.1 to P8.7.
func modelParse(r *rulebook, s string) (api.Node, []api.Problem) {
	m, fillers := newModel(r, s)
	root := api.Node{Kind: api.NModule}
	for m.at < len(m.tokens) {
		if m.begins(item{aPart, "decl", nil}) {
			m.part(&root, "decl")
		} else {
			m.fail(&root, starters)
		}
	}
	root.Kids = append(root.Kids, fillers...)
	return root, m.sorted()
}

// modelExpression follows P8.8.
func modelExpression(r *rulebook, s string) (api.Node, []api.Problem) {
	m, fillers := newModel(r, s)
	root := api.Node{Kind: api.NModule}
	m.part(&root, "expr")
	if m.at < len(m.tokens) {
		m.fail(&root, nil)
	}
	root.Kids = append(root.Kids, fillers...)
	return root, m.sorted()
}

func (m *model) sorted() []api.Problem {
	found := map[[2]int]api.Problem{}
	for _, p := range m.problems {
		found[[2]int{p.At, p.Code}] = p
	}
	var l []api.Problem
	for at := range m.end + 1 {
		for code := range 2 {
			if p, ok := found[[2]int{at, code}]; ok {
				l = append(l, p)
			}
		}
	}
	return l
}

// is reports whether the token of a number, counted from the next one, has a name of the
// grammar.
func (m *model) is(number int, name string) bool {
	if m.at+number >= len(m.tokens) {
		return false
	}
	t := m.tokens[m.at+number]
	switch name {
	case "lower":
		return t.Kind == api.Lower
	case "Upper":
		return t.Kind == api.Upper
	case "Number":
		return t.Kind == api.Number
	case "String":
		return t.Kind == api.String
	}
	return (t.Kind == api.Symbol || t.Kind == api.Keyword) && t.Text == name
}

func (m *model) isOne(names []string) bool {
	return slices.ContainsFunc(names, func(name string) bool { return m.is(0, name) })
}

func (m *model) begins(x item) bool { return m.isOne(m.rules.first(x)) }

func (m *model) add(n *api.Node) {
	t := m.tokens[m.at]
	n.Kids = append(append(n.Kids, m.before[m.at]...), api.Node{Kind: t.Kind, Text: t.Text})
	m.at++
}

// fail adds an error that ends before one of the words.
func (m *model) fail(n *api.Node, ends []string) {
	p := api.Problem{At: m.end, End: m.end, Code: api.CodeSyntax}
	if m.at < len(m.tokens) {
		p.At, p.End = m.tokens[m.at].At, m.tokens[m.at].At+len(m.tokens[m.at].Text)
	}
	m.problems = append(m.problems, p)
	bad := api.Node{Kind: api.NError}
	for m.at < len(m.tokens) && !m.isOne(ends) {
		m.add(&bad)
	}
	n.Kids = append(n.Kids, bad)
}

// part adds the node of a production, or an error.
func (m *model) part(n *api.Node, name string) {
	if !m.begins(item{aPart, name, nil}) {
		m.fail(n, stops)
		return
	}
	a := m.choose(name)
	if name == "expr" || name == "type" || name == "not" && a.kind == api.NUnary {
		if m.nesting == 40 {
			m.fail(n, starters)
			return
		}
		m.nesting++
		defer func() { m.nesting-- }()
	}
	switch {
	case slices.Contains([]string{"or", "and", "cmp", "sum", "product", "dot"}, name):
		m.operators(n, a)
	case a.kind == 0:
		m.items(n, a.items)
	default:
		kid := api.Node{Kind: a.kind}
		m.items(&kid, a.items)
		n.Kids = append(n.Kids, kid)
	}
}

// operators adds an operand, or the nodes of the operators behind it.
func (m *model) operators(n *api.Node, a alternative) {
	more := a.items[1]
	all := api.Node{}
	m.items(&all, a.items[:1])
	for m.begins(more) {
		all = api.Node{Kids: []api.Node{{Kind: a.kind, Kids: all.Kids}}}
		m.items(&all.Kids[0], more.alternatives[0])
		if more.what == anOption {
			break
		}
	}
	n.Kids = append(n.Kids, all.Kids...)
}

// choose returns the alternative that the next tokens choose.
func (m *model) choose(name string) alternative {
	var l []alternative
	for _, a := range m.rules.productions[name] {
		if m.begins(a.items[0]) {
			l = append(l, a)
		}
	}
	switch {
	case len(l) == 1:
		return l[0]
	case name == "gen" && m.is(1, "<-"):
		return l[0]
	case name == "gen":
		return l[1]
	case m.is(0, "lower") && m.is(1, ".") && m.is(2, "lower") && m.is(3, "("):
		return l[2]
	case m.is(0, "lower") && m.is(1, "("):
		return l[1]
	case m.is(0, "lower"):
		return l[0]
	case m.is(0, "{") && (m.is(1, "}") || m.is(1, "lower") && m.is(2, "=")):
		return l[0]
	case m.is(0, "{"):
		return l[1]
	case m.is(0, "[") && m.comprehension(l[1]):
		return l[1]
	}
	return l[0]
}

// comprehension tries whether the token after the first expression in brackets is |.
func (m *model) comprehension(a alternative) bool {
	if known, ok := m.comprehensions[m.at]; ok {
		return known
	}
	tried := *m
	tried.problems = nil
	tried.items(&api.Node{}, a.items[:1])
	if !tried.is(0, "]") {
		tried.items(&api.Node{}, a.items[1:2])
	}
	m.comprehensions[m.at] = tried.is(0, "|")
	return m.comprehensions[m.at]
}

func (m *model) items(n *api.Node, l []item) {
	for len(l) > 0 {
		if bracket := listEnd(l); bracket != "" {
			m.list(n, l, bracket)
			l = afterList(l)
			continue
		}
		m.item(n, l[0])
		l = l[1:]
	}
}

func (m *model) item(n *api.Node, x item) {
	switch {
	case x.what == aPart:
		m.part(n, x.name)
	case x.what == aToken:
		if !m.is(0, x.name) {
			m.fail(n, stops)
		}
		if m.is(0, x.name) {
			m.add(n)
		}
	case x.what == aGroup:
		m.add(n)
	case m.begins(x):
		m.items(n, x.alternatives[0])
		if x.what == aRepetition {
			m.item(n, x)
		}
	}
}

// isMore reports whether an item stands for further elements of a list.
func isMore(x item) bool {
	return x.what == aRepetition && x.alternatives[0][0].name == ","
}

// listEnd returns the bracket that ends the list with which the items begin, if they do.
func listEnd(l []item) string {
	switch {
	case len(l) > 1 && l[0].what == anOption && len(l[0].alternatives[0]) == 2 && isMore(l[0].alternatives[0][1]):
		return l[1].name
	case len(l) > 2 && isMore(l[1]):
		return l[2].name
	}
	return ""
}

// afterList returns what follows the list and its bracket.
func afterList(l []item) []item {
	if l[0].what == anOption {
		return l[2:]
	}
	return l[3:]
}

// list follows P8.4.
func (m *model) list(n *api.Node, l []item, bracket string) {
	element := l[0]
	if element.what == anOption {
		if m.is(0, bracket) {
			m.add(n)
			return
		}
		element = element.alternatives[0][0]
	}
	m.item(n, element)
	for {
		if !m.is(0, ",") && !m.is(0, bracket) {
			m.fail(n, stops)
		}
		if m.is(0, bracket) {
			m.add(n)
			return
		}
		if !m.is(0, ",") {
			return
		}
		m.add(n)
		m.item(n, element)
	}
}
