package ast

import "schemalens/api"

// An operator with the number of its operands, its precedence, and those that its first
// and its last operand require.
type operator struct {
	name                    string
	operands                int
	precedence, first, last int
}

var operators = []operator{
	{"or", 2, 1, 1, 2},
	{"and", 2, 2, 2, 3},
	{"not", 1, 3, 3, 3},
	{"==", 2, 4, 5, 5},
	{"!=", 2, 4, 5, 5},
	{"<", 2, 4, 5, 5},
	{"<=", 2, 4, 5, 5},
	{"+", 2, 5, 5, 6},
	{"-", 2, 5, 5, 6},
	{"++", 2, 5, 5, 6},
	{"*", 2, 6, 6, 7},
}

const (
	fieldPrecedence = 7
	atomPrecedence  = 8
)

func operatorNamed(name string) (operator, bool) {
	for _, o := range operators {
		if o.name == name {
			return o, true
		}
	}
	return operator{}, false
}

func precedence(e api.Expr) int {
	switch e.Kind {
	case api.ELet, api.EIf, api.EMatch:
		return 0
	case api.EOp:
		o, _ := operatorNamed(e.Name)
		return o.precedence
	case api.EField:
		return fieldPrecedence
	}
	return atomPrecedence
}
