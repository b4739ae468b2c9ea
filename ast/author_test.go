package ast

import (
	"math/rand/v2"
	"slices"
	"sort"
	"strconv"
	"strings"
	"testing"

	"schemalens/api"
	"schemalens/lexer"
	"schemalens/parser"
)

// An author writes texts without problems together with the modules that they are.
type author struct {
	random  *rand.Rand
	text    string
	before  string // the last token
	nesting int
	plain   bool // with no redundant parentheses
}

func newAuthor(seed uint64) *author {
	return &author{random: rand.New(rand.NewPCG(10, seed))}
}

func (a *author) pick(words string) string {
	l := strings.Fields(words)
	return l[a.random.IntN(len(l))]
}

func (a *author) chance(n int) bool { return a.random.IntN(n) == 0 }

// fill writes fillers, or nothing where two tokens may stand side by side.
func (a *author) fill(next string) {
	fillers := []string{" ", "  ", "\n", "\t# ) é \"\n", "#\r\n "}
	if a.chance(3) {
		a.text += fillers[a.random.IntN(len(fillers))]
	} else if lexer.Join([]string{a.before, next}) != a.before+next {
		a.text += " "
	}
}

// token writes tokens that are given as one text, and returns the offset of the first.
func (a *author) token(texts ...string) int {
	at := -1
	for _, s := range texts {
		if a.before != "" {
			a.fill(s)
		}
		if at < 0 {
			at = len(a.text)
		}
		a.text += s
		a.before = s
	}
	return at
}

func (a *author) lower() string { return a.pick("x y z x1 a_ abcdefghijklmnop") }
func (a *author) upper() string { return a.pick("A B C1 Int Abcdefghijklmnop") }

// several writes elements with a separator between them.
func (a *author) several(least, most int, separator string, write func()) {
	for i := range least + a.random.IntN(most-least+1) {
		if i > 0 {
			a.token(separator)
		}
		write()
	}
}

func (a *author) typ(budget int) api.Type {
	switch budget -= 1; {
	case budget > 0 && a.chance(3):
		a.token("[")
		t := api.Type{Kind: api.TyList, Kids: []api.Type{a.typ(budget)}}
		a.token("]")
		return t
	case budget > 0 && a.chance(3):
		return a.recordType(budget)
	}
	name := a.pick("Int Text Bool T Abcdefghijklmnop Ints")
	a.token(name)
	if kind := slices.Index([]string{"Int", "Text", "Bool"}, name); kind >= 0 {
		return api.Type{Kind: kind}
	}
	return api.Type{Kind: api.TySum, Name: name}
}

func (a *author) recordType(budget int) api.Type {
	t := api.Type{Kind: api.TyRecord}
	fields := map[string]api.Type{}
	a.token("{")
	a.several(0, 3, ",", func() {
		name := a.lower()
		a.token(name, ":")
		field := a.typ(budget)
		if _, ok := fields[name]; !ok {
			fields[name] = field
			t.Names = append(t.Names, name)
		}
	})
	a.token("}")
	sort.Strings(t.Names)
	for _, name := range t.Names {
		t.Kids = append(t.Kids, fields[name])
	}
	return t
}

// expr writes an expression at a place that requires no precedence.
func (a *author) expr(budget int) api.Expr {
	a.nesting++
	e, _ := a.operand(budget, 0)
	a.nesting--
	return e
}

// operand writes an expression at a place that requires a precedence, and also returns
// where it begins with its parentheses.
func (a *author) operand(budget, required int) (e api.Expr, at int) {
	if a.nesting > api.MaxDepth-10 {
		budget = 0
	}
	own, write := a.choose(budget)
	if own < required || !a.plain && budget > 0 && a.chance(8) {
		at = a.token("(")
		e = a.expr(budget)
		a.token(")")
		return e, at
	}
	e = write()
	if e.End == 0 {
		e.End = len(a.text)
	}
	return e, e.At
}

// choose returns the precedence of an expression and what writes it.
func (a *author) choose(budget int) (own int, write func() api.Expr) {
	if budget <= 0 {
		return 8, a.leaf
	}
	budget--
	switch a.random.IntN(14) {
	case 0:
		return 0, func() api.Expr { return a.let(budget) }
	case 1:
		return 0, func() api.Expr { return a.choice(budget) }
	case 2:
		return 0, func() api.Expr { return a.match(budget) }
	case 3:
		return 3, func() api.Expr { return a.not(budget) }
	case 4, 5, 6:
		name := a.pick("or and == != < <= + - ++ *")
		own = modelPrecedence(api.Expr{Kind: api.EOp, Name: name})
		return own, func() api.Expr { return a.binary(name, own, budget) }
	case 7:
		return 7, func() api.Expr { return a.field(budget) }
	case 8:
		return 8, func() api.Expr { return a.call(budget) }
	case 9:
		return 8, func() api.Expr { return a.make(budget) }
	case 10:
		return 8, func() api.Expr { return a.record(budget) }
	case 11:
		return 8, func() api.Expr { return a.with(budget) }
	case 12:
		return 8, func() api.Expr { return a.list(budget) }
	}
	return 8, func() api.Expr { return a.comprehension(budget) }
}

func (a *author) leaf() api.Expr {
	switch a.random.IntN(6) {
	case 0:
		n := a.pick("0 7 007 12 1099511627776")
		value, _ := strconv.Atoi(n)
		return api.Expr{Kind: api.EInt, N: value, At: a.token(n)}
	case 1:
		s := a.pick("a # é true x.y")
		return api.Expr{Kind: api.EText, S: s, At: a.token(`"` + s + `"`)}
	case 2:
		if a.chance(2) {
			return api.Expr{Kind: api.EBool, At: a.token("false")}
		}
		return api.Expr{Kind: api.EBool, N: 1, At: a.token("true")}
	case 3:
		return api.Expr{Kind: api.EHole, At: a.token("?")}
	case 4:
		name := a.upper()
		return api.Expr{Kind: api.EMake, Name: name, At: a.token(name)}
	}
	name := a.lower()
	return api.Expr{Kind: api.EVar, Name: name, At: a.token(name)}
}

func (a *author) let(budget int) api.Expr {
	e := api.Expr{Kind: api.ELet, Name: a.lower()}
	e.At = a.token("let", e.Name, "=")
	e.Kids = append(e.Kids, a.expr(budget))
	a.token("in")
	e.Kids = append(e.Kids, a.expr(budget))
	return e
}

func (a *author) choice(budget int) api.Expr {
	e := api.Expr{Kind: api.EIf, At: -1}
	for _, word := range []string{"if", "then", "else"} {
		at := a.token(word)
		if e.At < 0 {
			e.At = at
		}
		e.Kids = append(e.Kids, a.expr(budget))
	}
	return e
}

func (a *author) match(budget int) api.Expr {
	e := api.Expr{Kind: api.EMatch, At: a.token("match")}
	e.Kids = append(e.Kids, a.expr(budget))
	a.token("{")
	a.several(1, 3, ",", func() {
		name, bind := a.upper(), ""
		a.token(name)
		if a.chance(2) {
			bind = a.lower()
			a.token("(", bind, ")")
		}
		a.token("->")
		e.Names = append(e.Names, name)
		e.Binds = append(e.Binds, bind)
		e.Kids = append(e.Kids, a.expr(budget))
	})
	a.token("}")
	return e
}

func (a *author) not(budget int) api.Expr {
	e := api.Expr{Kind: api.EOp, Name: "not", At: a.token("not")}
	a.nesting++
	kid, _ := a.operand(budget, 3)
	a.nesting--
	e.Kids = []api.Expr{kid}
	return e
}

func (a *author) binary(name string, own, budget int) api.Expr {
	first, last := own, own+1
	if own == 4 {
		first = 5
	}
	left, at := a.operand(budget, first)
	a.token(name)
	right, _ := a.operand(budget, last)
	return api.Expr{Kind: api.EOp, Name: name, Kids: []api.Expr{left, right}, At: at}
}

func (a *author) field(budget int) api.Expr {
	kid, at := a.operand(budget, 7)
	e := api.Expr{Kind: api.EField, Name: a.lower(), Kids: []api.Expr{kid}, At: at}
	a.token(".", e.Name)
	return e
}

func (a *author) call(budget int) api.Expr {
	e := api.Expr{Kind: api.ECall, Name: a.lower()}
	words := []string{e.Name}
	if a.chance(2) {
		e.S = a.lower()
		words = []string{e.S, ".", e.Name}
	}
	e.At = a.token(words...)
	a.token("(")
	a.several(0, 3, ",", func() { e.Kids = append(e.Kids, a.expr(budget)) })
	a.token(")")
	return e
}

func (a *author) make(budget int) api.Expr {
	e := api.Expr{Kind: api.EMake, Name: a.upper()}
	e.At = a.token(e.Name)
	a.token("(")
	e.Kids = []api.Expr{a.expr(budget)}
	a.token(")")
	return e
}

func (a *author) pair(e *api.Expr, budget int) {
	name := a.lower()
	a.token(name, "=")
	e.Names = append(e.Names, name)
	e.Kids = append(e.Kids, a.expr(budget))
}

func (a *author) record(budget int) api.Expr {
	e := api.Expr{Kind: api.ERecord, At: a.token("{")}
	a.several(0, 3, ",", func() { a.pair(&e, budget) })
	a.token("}")
	return e
}

func (a *author) with(budget int) api.Expr {
	e := api.Expr{Kind: api.EWith, At: a.token("{")}
	e.Kids = append(e.Kids, a.expr(budget))
	a.token("with")
	a.several(1, 3, ",", func() { a.pair(&e, budget) })
	a.token("}")
	return e
}

func (a *author) list(budget int) api.Expr {
	e := api.Expr{Kind: api.EList, At: a.token("[")}
	a.several(0, 3, ",", func() { e.Kids = append(e.Kids, a.expr(budget)) })
	a.token("]")
	return e
}

func (a *author) comprehension(budget int) api.Expr {
	e := api.Expr{Kind: api.EComp, At: a.token("[")}
	e.Kids = append(e.Kids, a.expr(budget))
	a.token("|")
	a.several(1, 3, ",", func() {
		name := ""
		if a.chance(2) {
			name = a.lower()
			a.token(name, "<-")
		}
		e.Names = append(e.Names, name)
		e.Kids = append(e.Kids, a.expr(budget))
	})
	a.token("]")
	return e
}

// module writes a whole text.
func (a *author) module(budget int) api.Module {
	m := api.Module{Name: a.lower()}
	for range a.random.IntN(4) {
		m.Decls = append(m.Decls, a.decl(budget))
	}
	a.fill("")
	return m
}

func (a *author) decl(budget int) api.Decl {
	d := api.Decl{Kind: a.random.IntN(4), Name: a.lower()}
	if d.Kind == api.DType {
		d.Name = a.upper()
	}
	d.At = a.token([]string{"type", "table", "fun", "proc"}[d.Kind])
	d.NameAt = a.token(d.Name)
	switch d.Kind {
	case api.DType:
		d.Sum.Name = d.Name
		a.token("=")
		a.several(1, 3, "|", func() { d.Sum.Ctors = append(d.Sum.Ctors, a.ctor(budget)) })
	case api.DTable:
		d.Table = a.table(d.Name, budget)
	case api.DFun:
		d.Params = a.params(budget)
		if a.chance(2) {
			a.token(":")
			d.Typed, d.Type = true, a.typ(budget)
		}
		a.token("=")
		d.Body = a.expr(budget)
	case api.DProc:
		d.Params = a.params(budget)
		a.token("=")
		a.several(1, 3, ";", func() { d.Stmts = append(d.Stmts, a.stmt(budget)) })
	}
	d.End = len(a.text)
	return d
}

func (a *author) ctor(budget int) api.Ctor {
	c := api.Ctor{Name: a.upper(), Has: a.chance(2)}
	a.token(c.Name)
	if c.Has {
		a.token("(")
		c.Arg = a.typ(budget)
		a.token(")")
	}
	return c
}

func (a *author) table(name string, budget int) api.Table {
	t := api.Table{Name: name, Check: api.Expr{Kind: api.EBool, N: 1}}
	a.token("{")
	a.several(0, 3, ",", func() {
		name := a.lower()
		a.token(name, ":")
		t.Columns = append(t.Columns, api.Column{Name: name, Type: a.typ(budget)})
	})
	a.token("}", "key", "(")
	a.several(1, 3, ",", func() {
		t.Key = append(t.Key, a.lower())
		a.token(t.Key[len(t.Key)-1])
	})
	a.token(")")
	for range a.random.IntN(3) {
		r := api.Ref{Column: a.lower(), Table: a.lower()}
		a.token("ref", r.Column, "to", r.Table)
		t.Refs = append(t.Refs, r)
	}
	if a.chance(2) {
		a.token("check")
		t.Check = a.expr(budget)
	}
	return t
}

func (a *author) params(budget int) []api.Param {
	var l []api.Param
	a.token("(")
	a.several(0, 3, ",", func() {
		p := api.Param{Name: a.lower(), Typed: a.chance(2), Has: a.chance(2)}
		p.At = a.token(p.Name)
		if p.Typed {
			a.token(":")
			p.Type = a.typ(budget)
		}
		if p.Has {
			a.token("=")
			p.Default = a.expr(budget)
		}
		p.End = len(a.text)
		l = append(l, p)
	})
	a.token(")")
	return l
}

func (a *author) stmt(budget int) api.Stmt {
	s := api.Stmt{Kind: a.random.IntN(3), Table: a.lower()}
	s.At = a.token([]string{"insert", "delete", "update"}[s.Kind], s.Table)
	if s.Kind != api.SInsert {
		s.Bind = a.lower()
		a.token("as", s.Bind, "where")
		s.Cond = a.expr(budget)
	}
	if s.Kind == api.SUpdate {
		a.token("set")
	}
	if s.Kind != api.SDelete {
		s.Value = a.expr(budget)
	}
	s.End = len(a.text)
	return s
}

// eachExpr calls f with all expressions of a module that stand in its source.
func eachExpr(m *api.Module, f func(e *api.Expr)) {
	var visit func(e *api.Expr)
	visit = func(e *api.Expr) {
		f(e)
		for i := range e.Kids {
			visit(&e.Kids[i])
		}
	}
	for i := range m.Decls {
		d := &m.Decls[i]
		for j := range d.Params {
			if d.Params[j].Has {
				visit(&d.Params[j].Default)
			}
		}
		for j := range d.Stmts {
			s := &d.Stmts[j]
			if s.Kind != api.SInsert {
				visit(&s.Cond)
			}
			if s.Kind != api.SDelete {
				visit(&s.Value)
			}
		}
		if d.Kind == api.DTable && d.Table.Check.End > 0 {
			visit(&d.Table.Check)
		}
		if d.Kind == api.DFun {
			visit(&d.Body)
		}
	}
}

func TestWrittenModules(t *testing.T) { // P10.1, P10.2, P10.3, P10.11
	for seed := range uint64(3000) {
		a := newAuthor(seed)
		m := a.module(int(seed % 6))
		tree, problems := parser.Parse(a.text)
		if len(problems) > 0 {
			t.Fatalf("%q has problems", a.text)
		}
		if got, want := showModule(Lower(m.Name, tree)), showModule(m); got != want {
			t.Fatalf("%q is\n%s, want\n%s", a.text, got, want)
		}
	}
}

func TestPrintedModules(t *testing.T) { // P10.5, P10.6, P10.7, P10.10
	for seed := range uint64(3000) {
		a := newAuthor(seed)
		m := a.module(int(seed % 6))
		got, err := Print(m)
		if want := modelModuleSource(m); err != api.OK || got != want {
			t.Fatalf("Print returns\n%s and %v, want\n%s", got, err, want)
		}
		tree, problems := parser.Parse(got)
		if len(problems) > 0 {
			t.Fatalf("the source has problems:\n%s", got)
		}
		again := Lower(m.Name, tree)
		if !Equal(again, m) || showModule(Strip(again)) != showModule(Strip(m)) {
			t.Fatalf("the source is another module:\n%s", got)
		}
	}
}

// replacements are expressions with their texts.
func replacements() ([]string, []api.Expr) {
	x, y := api.Expr{Kind: api.EVar, Name: "x"}, api.Expr{Kind: api.EVar, Name: "y"}
	return []string{"q", "x or y", "let q=x in y", "{q=x}", "C"}, []api.Expr{
		{Kind: api.EVar, Name: "q"},
		{Kind: api.EOp, Name: "or", Kids: []api.Expr{x, y}},
		{Kind: api.ELet, Name: "q", Kids: []api.Expr{x, y}},
		{Kind: api.ERecord, Names: []string{"q"}, Kids: []api.Expr{x}},
		{Kind: api.EMake, Name: "C"},
	}
}

func TestPositions(t *testing.T) { // P10.12
	texts, exprs := replacements()
	count := 0
	for seed := range uint64(200) {
		a := newAuthor(seed)
		a.module(int(seed%3) + 2)
		text := a.text
		m := lower(text)
		eachExpr(&m, func(x *api.Expr) {
			e, err := ParseExpr(text[x.At:x.End])
			if err != api.OK || showExpr(moved(e, x.At)) != showExpr(*x) || !EqualExpr(e, *x) {
				t.Fatalf("%q from %d to %d is %s and %v, want %s", text, x.At, x.End, showExpr(e), err, showExpr(*x))
			}
			count++
			before, i := *x, count%len(texts)
			changed := text[:x.At] + "(" + texts[i] + ")" + text[x.End:]
			tree, problems := parser.Parse(changed)
			*x = exprs[i]
			if got := Lower("m", tree); len(problems) > 0 || !Equal(got, m) {
				t.Fatalf("%q is\n%s, want\n%s", changed, showModule(Strip(got)), showModule(Strip(m)))
			}
			*x = before
		})
	}
	if count < 1000 {
		t.Errorf("only %d expressions were replaced", count)
	}
}

func TestFillersAndParentheses(t *testing.T) { // P10.11
	for seed := range uint64(100) {
		a := newAuthor(seed)
		m := a.module(3)
		tokens := slices.DeleteFunc(lexer.Tokens(a.text), func(x api.Token) bool { return noPart(x.Kind) })
		var tight, loose []string
		for _, x := range tokens {
			tight = append(tight, x.Text)
			loose = append(loose, x.Text, "#"+x.Text)
		}
		wide := "\n " + strings.Join(tight, "\t\r\n") + "\n"
		for _, s := range []string{lexer.Join(tight), lexer.Join(loose), wide} {
			if got := lower(s); !Equal(Strip(got), api.Module{Name: "m", Decls: m.Decls}) {
				t.Fatalf("%q is\n%s, want\n%s", s, showModule(got), showModule(m))
			}
		}
		// Parentheses around any expression change nothing but positions.
		read := lower(a.text)
		eachExpr(&read, func(x *api.Expr) {
			s := a.text[:x.At] + "( #\n(" + a.text[x.At:x.End] + "))" + a.text[x.End:]
			if got := lower(s); !Equal(got, read) {
				t.Fatalf("%q is\n%s, want\n%s", s, showModule(got), showModule(read))
			}
		})
	}
}
