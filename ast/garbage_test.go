package ast

import (
	"math/rand/v2"
	"reflect"
	"testing"

	"schemalens/api"
	"schemalens/parser"
)

// A litter fills values with what can be printed here and there.
type litter struct{ random *rand.Rand }

func (g *litter) pick(l ...string) string { return l[g.random.IntN(len(l))] }

func (g *litter) chance(n int) bool { return g.random.IntN(n) == 0 }

func (g *litter) name() string {
	return g.pick("", "x", "x", "y", "a", "C", "D", "Int", "not", "+", "==", "let", "1")
}

func (g *litter) names(n int) []string {
	var l []string
	for range n {
		l = append(l, g.name())
	}
	return l
}

func (g *litter) expr(depth int) api.Expr {
	e := api.Expr{Kind: g.random.IntN(19) - 1}
	if !g.chance(3) {
		e.Kind = []int{api.EInt, api.EVar, api.EHole, api.EList, api.EOp, api.ECall}[g.random.IntN(6)]
	}
	if g.chance(2) {
		e.Name = g.name()
	}
	if g.chance(5) {
		e.N, e.S = g.random.IntN(4)-1, g.name()
	}
	names := g.random.IntN(3)
	if g.chance(3) {
		e.Names = g.names(names)
		if g.chance(2) {
			e.Binds = g.names(names)
		}
	}
	if depth > 0 && g.chance(2) {
		for range names + g.random.IntN(3) {
			e.Kids = append(e.Kids, g.expr(depth-1))
		}
	}
	return e
}

func (g *litter) typ(depth int) api.Type {
	t := api.Type{Kind: g.random.IntN(9) - 1, N: max(0, g.random.IntN(12)-10)}
	if g.chance(2) {
		t.Name = g.name()
	}
	n := g.random.IntN(3)
	if g.chance(2) {
		t.Names = []string{"a", "b", "c"}[:n]
	}
	if depth > 0 {
		for range n {
			t.Kids = append(t.Kids, g.typ(depth-1))
		}
	}
	return t
}

// spoil replaces some fields of a value by others.
func (g *litter) spoil(x any, chance int) {
	eachField(reflect.ValueOf(x).Elem(), "", func(v reflect.Value, name string) {
		if l := changes(v); g.chance(chance) {
			l[g.random.IntN(len(l))]()
		}
	})
}

func TestAnyExpressions(t *testing.T) { // R1, P10.4, P10.5, P10.10
	g := &litter{rand.New(rand.NewPCG(10, 5))}
	printed := 0
	for i := range uint64(100000) {
		e := g.expr(2)
		if i%20 == 0 {
			e = newAuthor(i).expr(3)
			g.spoil(&e, 10+int(i%500))
		}
		s, err := PrintExpr(e)
		if err != Valid(e) {
			t.Fatalf("Valid returns %v for %s, and PrintExpr %v", Valid(e), showExpr(e), err)
		}
		if err != api.OK {
			continue
		}
		if len(e.Kids) > 0 {
			printed++
		}
		if again, err := ParseExpr(s); s != modelSource(e) || err != api.OK || !EqualExpr(again, e) {
			t.Fatalf("PrintExpr returns %q for %s", s, showExpr(e))
		}
	}
	if printed < 500 {
		t.Errorf("only %d expressions with parts were printed", printed)
	}
}

func TestAnyTypes(t *testing.T) { // R1, P10.6, P10.10
	g := &litter{rand.New(rand.NewPCG(10, 6))}
	printed := 0
	for i := range uint64(100000) {
		x := g.typ(2)
		if i%20 == 0 {
			x = newAuthor(i).typ(4)
			g.spoil(&x, 10+int(i%500))
		}
		s, err := PrintType(x)
		if err != api.OK {
			continue
		}
		if len(x.Kids) > 0 {
			printed++
		}
		if again, err := ParseType(s); s != modelTypeSource(x) || err != api.OK || !equalType(again, x) {
			t.Fatalf("PrintType returns %q for %s", s, showType(x))
		}
	}
	if printed < 500 {
		t.Errorf("only %d types with parts were printed", printed)
	}
}

func TestAnyModules(t *testing.T) { // R1, P10.7, P10.10
	g := &litter{rand.New(rand.NewPCG(10, 7))}
	printed, refused := 0, 0
	for seed := range uint64(6000) {
		m := newAuthor(seed).module(2)
		g.spoil(&m, 20+int(seed%1000))
		s, err := Print(m)
		if err != api.OK {
			refused++
			continue
		}
		printed++
		tree, problems := parser.Parse(s)
		if again := Lower(m.Name, tree); len(problems) > 0 || s != modelModuleSource(m) || !Equal(again, m) {
			t.Fatalf("Print returns\n%s for\n%s", s, showModule(m))
		}
	}
	if printed < 1000 || refused < 1000 {
		t.Errorf("%d modules were printed, and %d refused", printed, refused)
	}
}
