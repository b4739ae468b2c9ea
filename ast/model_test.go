package ast

import (
	"slices"
	"sort"
	"strconv"
	"strings"

	"schemalens/api"
	"schemalens/lexer"
	"schemalens/syntax"
)

// A place is a node of a tree and its offset.
type place struct {
	node   api.Node
	offset int
}

func noPart(kind int) bool {
	return slices.Contains([]int{api.Space, api.Comment, api.Bad}, kind)
}

// parts returns the parts of a node, of all kinds or of some.
func (p place) parts(kinds ...int) []place {
	var l []place
	at := p.offset
	for _, k := range p.node.Kids {
		if !noPart(k.Kind) && (len(kinds) == 0 || slices.Contains(kinds, k.Kind)) {
			l = append(l, place{k, at})
		}
		at += syntax.Width(k)
	}
	return l
}

// span returns the beginning and the end of a node.
func (p place) span() (at, end int) {
	at, end = -1, p.offset
	for _, t := range syntax.Leaves(p.node) {
		if !noPart(t.Kind) && at < 0 {
			at = p.offset + t.At
		}
		end = p.offset + t.At + len(t.Text)
	}
	if at < 0 {
		return p.offset, p.offset
	}
	return at, end
}

func (p place) names() []string {
	var l []string
	for _, k := range p.parts(api.Lower, api.Upper) {
		l = append(l, k.node.Text)
	}
	return append(l, "", "")
}

func (p place) leaf(text string) bool {
	for _, k := range p.parts(api.Symbol) {
		if k.node.Text == text {
			return true
		}
	}
	return false
}

func (p place) last() place {
	l := p.parts()
	return l[len(l)-1]
}

func isExpressionNode(kind int) bool {
	switch kind {
	case api.NArm, api.NPair, api.NGen:
		return false
	}
	return kind >= api.NLet && kind <= api.NError
}

// modelBad is an EBad with the beginning and the end of a node.
func modelBad(p place) api.Expr {
	at, end := p.span()
	return api.Expr{Kind: api.EBad, At: at, End: end}
}

// modelEnd is the expression of an NPair, NGen or NArm.
func modelEnd(p place) api.Expr {
	if !isExpressionNode(p.last().node.Kind) || len(p.parts(api.NError)) > 0 {
		return modelBad(p)
	}
	return modelExpr(p.last())
}

// modelExpr follows P10.3.
func modelExpr(p place) api.Expr {
	kind := p.node.Kind
	if kind <= api.Bad || kind == api.NError || len(p.parts(api.NError)) > 0 {
		return modelBad(p)
	}
	names := p.names()
	var operands []api.Expr
	for _, k := range p.parts() {
		if isExpressionNode(k.node.Kind) {
			operands = append(operands, modelExpr(k))
		}
	}
	if kind == api.NParen {
		return operands[0]
	}
	e := api.Expr{Kids: operands}
	e.At, e.End = p.span()
	switch kind {
	case api.NLiteral:
		modelLiteral(&e, p.parts()[0].node)
	case api.NHole:
		e.Kind = api.EHole
	case api.NName:
		e.Kind, e.Name = api.EVar, names[0]
	case api.NCall:
		e.Kind, e.Name = api.ECall, names[len(names)-3]
		if len(names) == 4 {
			e.S = names[0]
		}
	case api.NMake:
		e.Kind, e.Name = api.EMake, names[0]
	case api.NRecord, api.NWith:
		e.Kind = map[int]int{api.NRecord: api.ERecord, api.NWith: api.EWith}[kind]
	case api.NDot:
		e.Kind, e.Name = api.EField, names[0]
	case api.NList:
		e.Kind = api.EList
	case api.NComp:
		e.Kind = api.EComp
	case api.NLet:
		e.Kind, e.Name = api.ELet, names[0]
	case api.NIf:
		e.Kind = api.EIf
	case api.NMatch:
		e.Kind = api.EMatch
	default:
		e.Kind = api.EOp
		for _, k := range p.parts() {
			if k.node.Kind <= api.Bad {
				e.Name = k.node.Text
			}
		}
	}
	for _, k := range p.parts(api.NPair, api.NGen, api.NArm) {
		name := k.names()[0]
		if k.node.Kind == api.NGen && !k.leaf("<-") {
			name = ""
		}
		e.Names = append(e.Names, name)
		if k.node.Kind == api.NArm {
			e.Binds = append(e.Binds, k.names()[1])
		}
		e.Kids = append(e.Kids, modelEnd(k))
	}
	return e
}

func modelLiteral(e *api.Expr, leaf api.Node) {
	e.Kind = api.EBad
	if !lexer.Fits(api.Token{Kind: leaf.Kind, Text: leaf.Text}) {
		return
	}
	switch leaf.Kind {
	case api.Number:
		e.Kind = api.EInt
		for _, digit := range leaf.Text {
			e.N = 10*e.N + int(digit-'0')
		}
	case api.String:
		e.Kind, e.S = api.EText, strings.Trim(leaf.Text, `"`)
	default:
		e.Kind, e.N = api.EBool, map[string]int{"true": 1, "false": 0}[leaf.Text]
	}
}

// modelType follows P10.1.
func modelType(p place) api.Type {
	l := p.parts(api.NTypeName, api.NTypeList, api.NTypeRecord)
	if len(l) == 0 {
		return api.Type{Kind: api.TyVar}
	}
	switch l[0].node.Kind {
	case api.NTypeName:
		name := l[0].names()[0]
		if kind := slices.Index([]string{"Int", "Text", "Bool"}, name); kind >= 0 {
			return api.Type{Kind: kind}
		}
		return api.Type{Kind: api.TySum, Name: name}
	case api.NTypeList:
		return api.Type{Kind: api.TyList, Kids: []api.Type{modelType(l[0])}}
	}
	first := map[string]api.Type{}
	t := api.Type{Kind: api.TyRecord}
	for _, f := range l[0].parts(api.NField) {
		name := f.names()[0]
		if _, ok := first[name]; !ok {
			first[name] = modelType(f)
			t.Names = append(t.Names, name)
		}
	}
	sort.Strings(t.Names)
	for _, name := range t.Names {
		t.Kids = append(t.Kids, first[name])
	}
	return t
}

// modelModule follows P10.1.
func modelModule(name string, tree api.Node) api.Module {
	m := api.Module{Name: name}
	for _, p := range (place{tree, 0}).parts(api.NType, api.NTable, api.NFun, api.NProc) {
		names := p.parts(api.Lower, api.Upper)
		if len(names) == 0 {
			continue
		}
		d := api.Decl{Kind: p.node.Kind, Name: names[0].node.Text, NameAt: names[0].offset}
		d.At, d.End = p.span()
		for _, k := range p.parts(api.NParam) {
			d.Params = append(d.Params, modelParam(k))
		}
		switch p.node.Kind {
		case api.NType:
			d.Kind, d.Sum.Name = api.DType, d.Name
			for _, k := range p.parts(api.NCtor) {
				c := api.Ctor{Name: k.names()[0], Has: k.leaf("(")}
				if c.Has {
					c.Arg = modelType(k)
				}
				d.Sum.Ctors = append(d.Sum.Ctors, c)
			}
		case api.NTable:
			d.Kind, d.Table = api.DTable, modelTable(d.Name, p)
		case api.NFun:
			d.Kind, d.Body = api.DFun, modelExpr(p.last())
			if p.leaf(":") {
				d.Typed, d.Type = true, modelType(p)
			}
		case api.NProc:
			d.Kind = api.DProc
			for _, k := range p.parts(api.NInsert, api.NDelete, api.NUpdate) {
				d.Stmts = append(d.Stmts, modelStmt(k))
			}
		}
		m.Decls = append(m.Decls, d)
	}
	return m
}

func modelTable(name string, p place) api.Table {
	t := api.Table{Name: name, Check: api.Expr{Kind: api.EBool, N: 1}}
	for _, k := range p.parts(api.NField, api.NKey, api.NRef, api.NCheck) {
		names := k.names()
		names = names[:len(names)-2]
		switch k.node.Kind {
		case api.NField:
			t.Columns = append(t.Columns, api.Column{Name: names[0], Type: modelType(k)})
		case api.NKey:
			t.Key = append(t.Key, names...)
		case api.NRef:
			if len(names) >= 2 {
				t.Refs = append(t.Refs, api.Ref{Column: names[0], Table: names[1]})
			}
		case api.NCheck:
			t.Check = modelExpr(k.last())
		}
	}
	return t
}

func modelParam(p place) api.Param {
	x := api.Param{Name: p.names()[0], Typed: p.leaf(":"), Has: p.leaf("=")}
	x.At, x.End = p.span()
	if x.Typed {
		x.Type = modelType(p)
	}
	if x.Has {
		x.Default = modelExpr(p.last())
	}
	return x
}

// modelStmt follows P10.2.
func modelStmt(p place) api.Stmt {
	s := api.Stmt{Table: p.names()[0]}
	s.At, s.End = p.span()
	first, last := modelBad(p), modelBad(p)
	if len(p.parts(api.NError)) == 0 {
		i := slices.IndexFunc(p.parts(), func(k place) bool { return isExpressionNode(k.node.Kind) })
		first, last = modelExpr(p.parts()[i]), modelExpr(p.last())
	}
	switch p.node.Kind {
	case api.NInsert:
		s.Kind, s.Value = api.SInsert, last
	case api.NDelete:
		s.Kind, s.Bind, s.Cond = api.SDelete, p.names()[1], last
	case api.NUpdate:
		s.Kind, s.Bind, s.Cond, s.Value = api.SUpdate, p.names()[1], first, last
	}
	return s
}

// modelPrecedence follows P10.5.
func modelPrecedence(e api.Expr) int {
	switch e.Kind {
	case api.ELet, api.EIf, api.EMatch:
		return 0
	case api.EField:
		return 7
	case api.EOp:
		levels := []string{"or", "and", "not", "== != < <=", "+ - ++", "*"}
		return 1 + slices.IndexFunc(levels, func(l string) bool { return slices.Contains(strings.Fields(l), e.Name) })
	}
	return 8
}

// modelOperand puts a part in parentheses where its place requires that.
func modelOperand(e api.Expr, required int) string {
	if modelPrecedence(e) < required {
		return "(" + modelSource(e) + ")"
	}
	return modelSource(e)
}

// modelSource follows P10.5, for expressions without errors except for their nesting.
func modelSource(e api.Expr) string {
	if e.Kind == api.EField || e.Kind == api.EOp {
		return modelOperation(e)
	}
	var kids []string
	for _, k := range e.Kids {
		kids = append(kids, modelSource(k))
	}
	named := func(from int, between string) string {
		var l []string
		for i, name := range e.Names {
			if len(e.Binds) > 0 && e.Binds[i] != "" {
				name += "(" + e.Binds[i] + ")"
			}
			if name != "" {
				name += between
			}
			l = append(l, name+kids[from+i])
		}
		return strings.Join(l, ", ")
	}
	all := strings.Join(kids, ", ")
	switch e.Kind {
	case api.EInt:
		return strconv.Itoa(e.N)
	case api.EText:
		return `"` + e.S + `"`
	case api.EBool:
		return []string{"false", "true"}[e.N]
	case api.EVar:
		return e.Name
	case api.EHole:
		return "?"
	case api.ECall:
		return strings.TrimPrefix(e.S+"."+e.Name, ".") + "(" + all + ")"
	case api.EMake:
		return strings.TrimSuffix(e.Name+"("+all+")", "()")
	case api.ERecord:
		return strings.Replace("{ "+named(0, " = ")+" }", "{  }", "{}", 1)
	case api.EWith:
		return "{ " + kids[0] + " with " + named(1, " = ") + " }"
	case api.EList:
		return "[" + all + "]"
	case api.EComp:
		return "[" + kids[0] + " | " + named(1, " <- ") + "]"
	case api.ELet:
		return "let " + e.Name + " = " + kids[0] + " in " + kids[1]
	case api.EIf:
		return "if " + kids[0] + " then " + kids[1] + " else " + kids[2]
	}
	return "match " + kids[0] + " { " + named(1, " -> ") + " }"
}

// modelOperation is modelSource for operators and fields.
func modelOperation(e api.Expr) string {
	own := modelPrecedence(e)
	switch {
	case e.Kind == api.EField:
		return modelOperand(e.Kids[0], 7) + "." + e.Name
	case e.Name == "not":
		return "not " + modelOperand(e.Kids[0], 3)
	case own == 4:
		return modelOperand(e.Kids[0], 5) + " " + e.Name + " " + modelOperand(e.Kids[1], 5)
	}
	return modelOperand(e.Kids[0], own) + " " + e.Name + " " + modelOperand(e.Kids[1], own+1)
}

// modelTypeSource follows P10.6, for types without errors.
func modelTypeSource(t api.Type) string {
	switch t.Kind {
	case api.TyList:
		return "[" + modelTypeSource(t.Kids[0]) + "]"
	case api.TyRecord:
		var l []string
		for i, name := range t.Names {
			l = append(l, name+": "+modelTypeSource(t.Kids[i]))
		}
		return strings.Replace("{ "+strings.Join(l, ", ")+" }", "{  }", "{}", 1)
	case api.TySum:
		return t.Name
	}
	return []string{"Int", "Text", "Bool"}[t.Kind]
}

// modelModuleSource follows P10.7, for modules without errors.
func modelModuleSource(m api.Module) string {
	s := ""
	for _, d := range m.Decls {
		s += modelDeclSource(d) + "\n"
	}
	return s
}

func modelDeclSource(d api.Decl) string {
	var l []string
	switch d.Kind {
	case api.DType:
		for _, c := range d.Sum.Ctors {
			if c.Has {
				c.Name += "(" + modelTypeSource(c.Arg) + ")"
			}
			l = append(l, c.Name)
		}
		return "type " + d.Name + " = " + strings.Join(l, " | ")
	case api.DTable:
		t := api.Type{Kind: api.TyRecord}
		for _, c := range d.Table.Columns {
			t.Names = append(t.Names, c.Name)
			t.Kids = append(t.Kids, c.Type)
		}
		s := "table " + d.Name + " " + modelTypeSource(t) + " key(" + strings.Join(d.Table.Key, ", ") + ")"
		for _, r := range d.Table.Refs {
			s += " ref " + r.Column + " to " + r.Table
		}
		if check := modelSource(d.Table.Check); check != "true" {
			s += " check " + check
		}
		return s
	}
	for _, p := range d.Params {
		if p.Typed {
			p.Name += ": " + modelTypeSource(p.Type)
		}
		if p.Has {
			p.Name += " = " + modelSource(p.Default)
		}
		l = append(l, p.Name)
	}
	head := d.Name + "(" + strings.Join(l, ", ") + ")"
	if d.Kind == api.DFun {
		if d.Typed {
			head += ": " + modelTypeSource(d.Type)
		}
		return "fun " + head + " = " + modelSource(d.Body)
	}
	l = nil
	for _, s := range d.Stmts {
		switch s.Kind {
		case api.SInsert:
			l = append(l, "insert "+s.Table+" "+modelSource(s.Value))
		case api.SDelete:
			l = append(l, "delete "+s.Table+" as "+s.Bind+" where "+modelSource(s.Cond))
		case api.SUpdate:
			l = append(l, "update "+s.Table+" as "+s.Bind+" where "+modelSource(s.Cond)+" set "+modelSource(s.Value))
		}
	}
	return "proc " + head + " = " + strings.Join(l, "; ")
}
