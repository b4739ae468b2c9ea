package names

import (
	"strconv"
	"strings"
	"testing"

	"schemalens/api"
	"schemalens/ast"
	"schemalens/parser"
)

// An example consists of the modules a, b, c .. of texts without their marks, «m» for the
// mark m, and of the offsets of these marks.
type example struct {
	ms    []api.Module
	texts []string
	marks []string // of marks and the offsets that take their places, for a Replacer
}

func newExample(texts ...string) *example {
	x := &example{}
	for _, s := range texts {
		pieces := strings.FieldsFunc("«»"+s, func(r rune) bool { return r == '«' })
		text := ""
		for _, p := range pieces {
			mark, rest, _ := strings.Cut(p, "»")
			x.marks = append(x.marks, "«"+mark+"»", strconv.Itoa(len(text)))
			text += rest
		}
		x.texts = append(x.texts, text)
	}
	x.ms = modulesOf(x.texts...)
	return x
}

// modulesOf returns the modules of texts, with the names a, b, c and so on.
func modulesOf(texts ...string) []api.Module {
	var ms []api.Module
	for i, s := range texts {
		tree, _ := parser.Parse(s)
		ms = append(ms, ast.Lower(string(rune('a'+i)), tree))
	}
	return ms
}

// fill replaces the marks of a line by their offsets.
func (x *example) fill(line string) string {
	return strings.NewReplacer(x.marks...).Replace(line)
}

// at returns the offset of a mark.
func (x *example) at(mark string) int {
	n, err := strconv.Atoi(x.fill("«" + mark + "»"))
	if err != nil {
		panic("no mark " + mark)
	}
	return n
}

// checkList compares a list with lines that can have marks of an example.
func checkList[T any](t *testing.T, x *example, what string, l []T, show func(T) string, want ...string) {
	t.Helper()
	if got, lines := showAll(l, show), x.fill(strings.Join(want, "\n")); got != lines {
		t.Errorf("%s:\n%s\nwant\n%s", what, got, lines)
	}
}

// showAll writes each element of a list into a line.
func showAll[T any](l []T, show func(T) string) string {
	var lines []string
	for _, x := range l {
		lines = append(lines, show(x))
	}
	return strings.Join(lines, "\n")
}

// showSymbol writes a symbol as "kind module:owner.name@offset", or without an owner.
func showSymbol(s Symbol) string {
	kind := "kind" + strconv.Itoa(s.Kind)
	if words := strings.Fields("type ctor table column fun proc param local"); s.Kind >= 0 && s.Kind < len(words) {
		kind = words[s.Kind]
	}
	owner := ""
	if s.Owner != "" {
		owner = s.Owner + "."
	}
	return kind + " " + s.Module + ":" + owner + s.Name + "@" + strconv.Itoa(s.At)
}

// showUse writes a use as "document from-to name = symbol", or with "?" for the symbol.
func showUse(u Use) string {
	s := u.Doc + " " + showSpan(u.At, u.End) + " " + u.Name + " = "
	switch {
	case u.Known:
		return s + showSymbol(u.Symbol)
	case u.Symbol != Symbol{}:
		return s + "unknown " + showSymbol(u.Symbol)
	}
	return s + "?"
}

// showProblem writes a problem as "document from-to code names".
func showProblem(p api.Problem) string {
	code := "code" + strconv.Itoa(p.Code)
	switch p.Code {
	case api.CodeTwice:
		code = "twice"
	case api.CodeName:
		code = "unknown"
	}
	return p.Doc + " " + showSpan(p.At, p.End) + " " + code + " " + strings.Join(p.Names, ",")
}

func showSpan(at, end int) string {
	return strconv.Itoa(at) + "-" + strconv.Itoa(end)
}

func showCall(c [2]string) string { return c[0] + " " + c[1] }

// showExpr writes an expression as "kind(name names|binds: kids)@from-to".
func showExpr(e api.Expr) string {
	kind := strings.Fields("Int Text Bool Var Call Make Record With Field List Comp Let If Match Op Hole Bad")[e.Kind]
	var kids []string
	for _, k := range e.Kids {
		kids = append(kids, showExpr(k))
	}
	return kind + "(" + e.Name + " " + strings.Join(e.Names, ",") + "|" + strings.Join(e.Binds, ",") + ": " +
		strings.Join(kids, " ") + ")@" + showSpan(e.At, e.End)
}
