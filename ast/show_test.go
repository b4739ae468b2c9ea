package ast

import (
	"strconv"
	"strings"
	"testing"

	"schemalens/api"
	"schemalens/parser"
)

// kindOf returns the name of a kind, of which names are in order.
func kindOf(kind int, names string) string {
	l := strings.Fields(names)
	if kind < 0 || kind >= len(l) {
		return "Kind" + strconv.Itoa(kind)
	}
	return l[kind]
}

// showExpr writes an expression down: its kind, all fields that are not zero (":" the
// Name, "#" the N, a quoted S, the Names in braces, the Binds between bars, "@" the
// positions), and its Kids in parentheses.
func showExpr(e api.Expr) string {
	s := kindOf(e.Kind, "Int Text Bool Var Call Make Record With Field List Comp Let If Match Op Hole Bad") + showName(e.Name) + showN(e.N)
	if e.S != "" {
		s += strconv.Quote(e.S)
	}
	if len(e.Names) > 0 {
		s += "{" + strings.Join(e.Names, ",") + "}"
	}
	if len(e.Binds) > 0 {
		s += "|" + strings.Join(e.Binds, ",") + "|"
	}
	return s + showPlace(e.At, e.End) + showList(e.Kids, showExpr)
}

func showName(name string) string {
	if name == "" {
		return ""
	}
	return ":" + name
}

func showN(n int) string {
	if n == 0 {
		return ""
	}
	return "#" + strconv.Itoa(n)
}

func showPlace(at, end int) string {
	if at == 0 && end == 0 {
		return ""
	}
	return "@" + strconv.Itoa(at) + "-" + strconv.Itoa(end)
}

func showList[T any](l []T, show func(T) string) string {
	if len(l) == 0 {
		return ""
	}
	var all []string
	for _, x := range l {
		all = append(all, show(x))
	}
	return "(" + strings.Join(all, " ") + ")"
}

// showType does the same with a type.
func showType(t api.Type) string {
	s := kindOf(t.Kind, "Int Text Bool Sum List Record Var") + showName(t.Name) + showN(t.N)
	if len(t.Names) > 0 {
		s += "{" + strings.Join(t.Names, ",") + "}"
	}
	return s + showList(t.Kids, showType)
}

// showDecl writes all fields of a declaration down that are not zero.
func showDecl(d api.Decl) string {
	s := kindOf(d.Kind, "Type Table Fun Proc") + showName(d.Name) + "[" + strconv.Itoa(d.NameAt) + "]" + showPlace(d.At, d.End)
	if d.Sum.Name != "" || len(d.Sum.Ctors) > 0 {
		s += " sum" + showName(d.Sum.Name) + showList(d.Sum.Ctors, showCtor)
	}
	if t := d.Table; t.Name != "" || len(t.Columns)+len(t.Key)+len(t.Refs) > 0 || !EqualExpr(t.Check, api.Expr{}) {
		s += " table" + showName(t.Name) + showList(t.Columns, showColumn) + " key " + strings.Join(t.Key, ",")
		s += showList(t.Refs, func(r api.Ref) string { return r.Column + ">" + r.Table }) + " check " + showExpr(t.Check)
	}
	s += showList(d.Params, showParam) + showTyped(d.Typed, d.Type)
	if body := showExpr(d.Body); body != "Int" {
		s += " = " + body
	}
	return s + showList(d.Stmts, showStmt)
}

func showCtor(c api.Ctor) string { return c.Name + showTyped(c.Has, c.Arg) }

func showColumn(c api.Column) string { return c.Name + showTyped(true, c.Type) }

func showTyped(typed bool, t api.Type) string {
	if typed {
		return ":" + showType(t)
	}
	if shown := showType(t); shown != "Int" {
		return "untyped " + shown
	}
	return ""
}

func showParam(p api.Param) string {
	s := p.Name + showPlace(p.At, p.End) + showTyped(p.Typed, p.Type)
	if p.Has {
		return s + "=" + showExpr(p.Default)
	}
	if shown := showExpr(p.Default); shown != "Int" {
		return s + "unused " + shown
	}
	return s
}

func showStmt(s api.Stmt) string {
	shown := kindOf(s.Kind, "Insert Delete Update") + showName(s.Table) + showName(s.Bind) + showPlace(s.At, s.End)
	if cond := showExpr(s.Cond); cond != "Int" {
		shown += " where " + cond
	}
	if value := showExpr(s.Value); value != "Int" {
		shown += " value " + value
	}
	return shown
}

func showModule(m api.Module) string {
	s := "module" + showName(m.Name)
	for _, d := range m.Decls {
		s += "\n" + showDecl(d)
	}
	return s
}

// lower returns the module of a text.
func lower(s string) api.Module {
	tree, _ := parser.Parse(s)
	return Lower("m", tree)
}

// body returns the expression of a text with its places in it, also if it has errors.
func body(t *testing.T, s string) api.Expr {
	t.Helper()
	const before = "fun f()="
	m := lower(before + s)
	if len(m.Decls) == 0 {
		t.Fatalf("%q has no function", s)
	}
	return moved(m.Decls[0].Body, -len(before))
}

// moved returns an expression with other places.
func moved(e api.Expr, by int) api.Expr {
	e.At += by
	e.End += by
	kids := e.Kids
	e.Kids = nil
	for _, k := range kids {
		e.Kids = append(e.Kids, moved(k, by))
	}
	return e
}
