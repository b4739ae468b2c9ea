package names

import (
	"cmp"
	"slices"
	"strings"

	"schemalens/api"
)

// Problems returns the names that are declared twice or unknown.
func Problems(ms []api.Module) []api.Problem {
	var l []api.Problem
	known := meaningsIn(ms)
	everywhere := map[key]int{}
	for d := range declarations(ms) {
		within := map[key]int{}
		d.names(func(m mention) {
			u := known.use(d.module, m)
			switch {
			case m.role == repeats, m.role == declares && isTwice(m.Symbol, everywhere, within):
				l = append(l, problem(u, api.CodeTwice))
			case !u.Known:
				l = append(l, problem(u, api.CodeName))
			}
		})
	}
	slices.SortFunc(l, compare)
	return slices.CompactFunc(l, func(a, b api.Problem) bool { return compare(a, b) == 0 })
}

// isTwice counts a declared symbol, and reports whether it has the key of one that was
// counted before, or a name that is built in.
func isTwice(s Symbol, everywhere, within map[key]int) bool {
	count, builtIn := everywhere, false
	switch s.Kind {
	case SymType:
		builtIn = isBuiltInType(s.Name)
	case SymFun, SymProc:
		builtIn = isBuiltInFunction(s.Name)
	case SymParam, SymColumn:
		count = within
	case SymLocal:
		return false
	}
	count[keyOf(s)]++
	return builtIn || count[keyOf(s)] > 1
}

func problem(u Use, code int) api.Problem {
	return api.Problem{Doc: u.Doc, At: u.At, End: u.End, Code: code, Names: []string{u.Name}}
}

func compare(a, b api.Problem) int {
	return cmp.Or(
		strings.Compare(a.Doc, b.Doc),
		cmp.Compare(a.At, b.At),
		cmp.Compare(a.End, b.End),
		cmp.Compare(a.Code, b.Code),
		strings.Compare(a.Names[0], b.Names[0]),
	)
}
