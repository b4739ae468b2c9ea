package names

import (
	"slices"
	"strconv"
	"strings"
	"testing"

	"schemalens/api"
	"schemalens/ast"
)

// checkModel compares all results for modules with those of the model.
func checkModel(t *testing.T, what string, ms []api.Module, offsets int) {
	t.Helper()
	m := modelOf(ms)
	compareLists(t, what+": Symbols", Symbols(ms), m.symbols(), showSymbol)
	compareLists(t, what+": Uses", Uses(ms), m.uses(), showUse)
	compareLists(t, what+": Problems", Problems(ms), modelProblems(ms), showProblem)
	compareLists(t, what+": Calls", Calls(ms), modelCalls(ms), showCall)
	visible := func(doc string, offset int) {
		t.Helper()
		compareLists(t, what+": Visible in "+doc, Visible(ms, doc, offset), m.visible(ms, doc, offset), showSymbol)
	}
	visible("none", 0)
	for offset := -2; offset < offsets; offset++ {
		visible("a", offset)
		visible("b", offset)
	}
}

func compareLists[T any](t *testing.T, what string, got, want []T, show func(T) string) {
	t.Helper()
	if a, b := showAll(got, show), showAll(want, show); a != b {
		t.Fatalf("%s:\n%s\nwant\n%s", what, a, b)
	}
}

func TestModulesAgainstModel(t *testing.T) { // P11.1 to P11.5, P11.9
	for seed := range uint64(1500) {
		ms := newAuthor(seed).modules()
		checkModel(t, "seed "+strconv.FormatUint(seed, 10), ms, 14)
		unknown := slices.ContainsFunc(Uses(ms), func(u Use) bool { return !u.Known })
		if slices.ContainsFunc(Problems(ms), func(p api.Problem) bool { return p.Code == api.CodeName }) != unknown {
			t.Fatalf("seed %d: some use is not known: %v", seed, unknown) // P11.11
		}
	}
}

// samples are texts of two modules each.
func samples() [][2]string {
	return [][2]string{
		{"type T = A | B ( { a : T , b : [ U ] } ) fun f ( x , y : T = g ( 1 ) ) : T = match x { A -> y , B ( x ) -> b . h ( x ) , A ( y ) -> x }",
			"fun h ( x ) = a . f ( x , t ) fun g ( ) = size ( h ( 1 ) ) type U = C table t { x : Int } key ( x ) ref x to t"},
		{"table t { x : U , y : T } key ( y , x ) ref y to u check let y = x in x < y proc p ( x , y ) = insert t { x = x , y = t } ; delete u as x where x . x == y ; update t as y where t set { y with x = x }",
			"type U = A type T = B table u { y : T } key ( y ) proc h ( p ) = insert t b . f ( p )"},
		{"fun f ( x ) = let y = x in [ let x = z in x | z <- t , z == y , x <- [ z , x ] , x ] fun g ( ) = if A then { a = f ( g ( ) ) } else A ( { x with a = 1 } )",
			"table t { a : Int } key ( a ) type A = A"},
	}
}

func TestTextsAgainstModel(t *testing.T) { // P11.1 to P11.5, P11.9
	words := strings.Fields("x y t f h A T U Int sort b 1 ( ) { } , = . | : <- let match fun type table as in")
	for _, s := range samples() {
		for n, text := range s {
			tokens := strings.Fields(text)
			for i := range tokens {
				for j, w := range append([]string{""}, words...) {
					changed := slices.Clone(tokens)
					changed[i] = w
					texts := s
					texts[n] = strings.Join(changed, " ")
					offsets := 0
					if j%32 == i%32 {
						offsets = len(text) + 3
					}
					checkModel(t, texts[n], modulesOf(texts[0], texts[1]), offsets)
				}
			}
		}
	}
}

func TestSpansInTexts(t *testing.T) { // P11.11
	for _, s := range samples() {
		ms := modulesOf(s[0], s[1])
		count := 0
		for _, u := range Uses(ms) {
			text := map[string]string{"a": s[0], "b": s[1]}[u.Doc]
			name := text[u.At:u.End]
			if u.Known && u.Symbol.Owner == "" && u.Symbol.At == u.At && name != u.Name {
				t.Errorf("%s is %q", showUse(u), name)
			}
			if name == u.Name {
				count++
			}
		}
		if count < 10 {
			t.Errorf("%d names in %q", count, s)
		}
	}
	variables := 0
	for _, s := range samples() {
		for i, text := range s {
			for _, d := range modulesOf(s[0], s[1])[i].Decls {
				for _, e := range everyExpr(d) {
					if e.Kind == api.EVar {
						variables++
						if text[e.At:e.End] != e.Name {
							t.Errorf("%s is %q", e.Name, text[e.At:e.End])
						}
					}
				}
			}
		}
	}
	if variables < 25 {
		t.Errorf("%d variables", variables)
	}
}

func TestVariablePutAtAnOffset(t *testing.T) { // P11.12
	found := 0
	for _, s := range samples() {
		for n := range s {
			for i, c := range s[n] {
				if c != 'x' && c != 'y' && c != 't' && c != 'z' && c != '1' {
					continue
				}
				texts := s
				texts[n] = s[n][:i] + "?" + s[n][i+1:]
				before := modulesOf(texts[0], texts[1])
				for _, name := range []string{"x", "y", "z", "t", "u", "p", "f", "w"} {
					texts[n] = s[n][:i] + name + s[n][i+1:]
					found += checkPut(t, before, modulesOf(texts[0], texts[1]), string(rune('a'+n)), i, name)
				}
			}
		}
	}
	if found < 100 {
		t.Errorf("%d names", found)
	}
}

// checkPut compares what an EVar that takes the place of a hole means with the first
// visible symbol of its name, and returns the number of EVars that were compared.
func checkPut(t *testing.T, before, after []api.Module, doc string, offset int, name string) int {
	hole := func(e api.Expr) bool { return e.Kind == api.EHole && e.At == offset }
	found := false
	for _, m := range before {
		for _, d := range m.Decls {
			isDefault := slices.ContainsFunc(d.Params, func(p api.Param) bool { return p.At <= offset && offset < p.End })
			found = found || m.Name == doc && !isDefault && slices.ContainsFunc(everyExpr(d), hole)
		}
	}
	if !found {
		return 0
	}
	var want Symbol
	for _, s := range Visible(before, doc, offset) {
		if s.Name == name {
			if s.Kind != SymFun && s.Kind != SymCtor {
				want = s
			}
			break
		}
	}
	count := 0
	for _, u := range Uses(after) {
		if u.Doc == doc && u.At == offset && u.End == offset+1 && u.Name == name {
			count++
			if u.Symbol != want || u.Known != (want != Symbol{}) {
				t.Errorf("%s, want %s", showUse(u), showSymbol(want))
			}
		}
	}
	if count != 1 {
		t.Errorf("%d uses of %s at %d", count, name, offset)
	}
	return count
}

func TestExprsAgainstModel(t *testing.T) { // P11.6, P11.7
	for seed := range uint64(6000) {
		a := newAuthor(seed)
		e, by, name := a.expr(4), a.expr(a.random.IntN(3)), a.word()
		compareLists(t, "Free", Free(e), modelFree(e), func(s string) string { return s })
		got, want := Subst(e, name, by), e
		if name != "" {
			want = modelSubstitute(e, name, by)
		}
		if !ast.EqualExpr(got, want) || !samePlaces(got, want) {
			t.Fatalf("seed %d: Subst(%s, %s, %s) = %s, want %s", seed, showExpr(e), name, showExpr(by), showExpr(got), showExpr(want))
		}
		checkSubst(t, e, name, by)
	}
}

func samePlaces(a, b api.Expr) bool {
	return a.At == b.At && a.End == b.End && slices.EqualFunc(a.Kids, b.Kids, samePlaces)
}

// checkSubst checks the properties of Subst, apart from its model.
func checkSubst(t *testing.T, e api.Expr, name string, by api.Expr) { // P11.7, P11.10
	t.Helper()
	got := Subst(e, name, by)
	want := slices.DeleteFunc(Free(e), func(s string) bool { return s == name })
	if slices.Contains(Free(e), name) {
		want = append(want, Free(by)...)
	} else if !ast.EqualExpr(got, e) || !samePlaces(got, e) {
		t.Fatalf("Subst(%s, %s, %s) = %s", showExpr(e), name, showExpr(by), showExpr(got))
	}
	free := Free(got)
	slices.Sort(free)
	slices.Sort(want)
	if !slices.Equal(free, slices.Compact(want)) {
		t.Fatalf("Subst(%s, %s, %s) has the free names %v, want %v", showExpr(e), name, showExpr(by), free, want)
	}
	if name == "" {
		return
	}
	if a, b := nameless(got, "", ""), nameless(e, name, nameless(by, "", "")); a != b {
		t.Fatalf("Subst(%s, %s, %s) = %s", showExpr(e), name, showExpr(by), showExpr(got))
	}
	same := Subst(e, name, api.Expr{Kind: api.EVar, Name: name})
	if nameless(same, "", "") != nameless(e, "", "") {
		t.Fatalf("Subst(%s, %s, %s) = %s", showExpr(e), name, name, showExpr(same))
	}
}

func TestSubstInTexts(t *testing.T) { // P11.7, P11.10
	bodies := []string{"x", "y", "y + z", "let y = x in z", "[z | z <- y, x]", "match z { A(y) -> y + x }"}
	for _, s := range samples() {
		for _, m := range modulesOf(s[0], s[1]) {
			for _, d := range m.Decls {
				for _, e := range everyExpr(d) {
					for _, b := range bodies {
						by := parse(t, b)
						for _, name := range Free(e) {
							checkSubst(t, e, name, by)
						}
						checkSubst(t, e, "w", by)
					}
				}
			}
		}
	}
}

func TestFreshAgainstModel(t *testing.T) { // P11.8
	for seed := range uint64(3000) {
		a := newAuthor(seed)
		want := a.pick("x x1 let in abcdefghijklmnop abcdefghijklmnopq abcdefghijklm111 _ é")
		var used []string
		for range a.random.IntN(30) {
			used = append(used, modelFresh(want, used))
		}
		a.random.Shuffle(len(used), func(i, j int) { used[i], used[j] = used[j], used[i] })
		if len(used) > 0 && a.chance(2) {
			used = used[1:]
		}
		if got, model := Fresh(want, used), modelFresh(want, used); got != model {
			t.Fatalf("Fresh(%q, %q) = %q, want %q", want, used, got, model)
		}
	}
}
