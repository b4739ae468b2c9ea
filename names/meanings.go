package names

import "schemalens/api"

// A key is what symbols have in common that exclude each other.
type key struct {
	kind   int
	module string
	name   string
}

// keyOf returns the key of a symbol. Functions and procedures exclude each other, but only
// within their module.
func keyOf(s Symbol) key {
	switch s.Kind {
	case SymFun, SymProc:
		return key{SymFun, s.Module, s.Name}
	}
	return key{kind: s.Kind, name: s.Name}
}

// globals returns the symbols that can be meant in all of the modules, in the order of
// names; of those with the same key, only the first one.
func globals(ms []api.Module) []Symbol {
	var l []Symbol
	seen := map[key]bool{}
	for _, s := range Symbols(ms) {
		switch k := keyOf(s); s.Kind {
		case SymType, SymCtor, SymTable, SymFun:
			if !seen[k] {
				l = append(l, s)
			}
			seen[k] = true
		}
	}
	return l
}

// Meanings are the symbols that can be meant in all modules.
type meanings map[key]Symbol

func meaningsIn(ms []api.Module) meanings {
	known := meanings{}
	for _, s := range globals(ms) {
		known[keyOf(s)] = s
	}
	return known
}

// of returns the symbol that a name declares or means, if there is one.
func (known meanings) of(m mention) (Symbol, bool) {
	if m.role == declares {
		return m.Symbol, true
	}
	if v := m.in.find(m.Name); v != nil {
		return v.Symbol, true
	}
	s, ok := known[keyOf(m.Symbol)]
	return s, ok
}

// use returns the use that a name in a document is.
func (known meanings) use(doc string, m mention) Use {
	u := Use{Doc: doc, At: m.at, End: m.end, Name: m.Name}
	u.Symbol, u.Known = known.of(m)
	if !u.Known && m.prefix != "" {
		u.Name = m.prefix + "." + m.Name
	}
	return u
}

func isBuiltInType(name string) bool {
	switch name {
	case "Int", "Text", "Bool":
		return true
	}
	return false
}

func isBuiltInFunction(name string) bool {
	switch name {
	case "sort", "distinct", "size", "sum", "any", "all":
		return true
	}
	return false
}
