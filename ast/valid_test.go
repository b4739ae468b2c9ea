package ast

import (
	"math"
	"math/rand/v2"
	"slices"
	"strings"
	"testing"

	"schemalens/api"
	"schemalens/parser"
)

var (
	varX   = api.Expr{Kind: api.EVar, Name: "x"}
	makeC  = api.Expr{Kind: api.EMake, Name: "C"}
	number = api.Expr{Kind: api.EInt, N: 1}
)

func op(name string, kids ...api.Expr) api.Expr {
	return api.Expr{Kind: api.EOp, Name: name, Kids: kids}
}

func call(name string, kids ...api.Expr) api.Expr {
	return api.Expr{Kind: api.ECall, Name: name, Kids: kids}
}

// checkInvalid compares what Valid and PrintExpr say of an expression.
func checkInvalid(t *testing.T, e api.Expr, want api.Errno) {
	t.Helper()
	if got := Valid(e); got != want {
		t.Errorf("Valid returns %v for %.200s, want %v", got, showExpr(e), want)
	}
	if s, err := PrintExpr(e); err != want || (s == "") != (want != api.OK) {
		t.Errorf("PrintExpr returns %.200q and %v for %.200s, want %v", s, err, showExpr(e), want)
	}
}

// A usage is a printable expression of each kind with the names of the fields that the
// kind uses, and the numbers of Kids that it may have with these Names.
type usage struct {
	e    api.Expr
	used string
	kids []int
}

func usages() []usage {
	anyNumber := []int{0, 1, 2, 3, 4, 5}
	ab := []string{"a", "b"}
	three := []api.Expr{varX, number, makeC}
	return []usage{
		{api.Expr{Kind: api.EInt, N: 7}, "N", []int{0}},
		{api.Expr{Kind: api.EText, S: "a b"}, "S", []int{0}},
		{api.Expr{Kind: api.EBool, N: 1}, "N", []int{0}},
		{api.Expr{Kind: api.EVar, Name: "x"}, "Name", []int{0}},
		{api.Expr{Kind: api.ECall, Name: "f", S: "m", Kids: three}, "Name S", anyNumber},
		{api.Expr{Kind: api.ECall, Name: "f", Kids: three}, "Name S", anyNumber},
		{api.Expr{Kind: api.EMake, Name: "C", Kids: three[:1]}, "Name", []int{0, 1}},
		{api.Expr{Kind: api.ERecord, Names: ab, Kids: three[:2]}, "Names", []int{2}},
		{api.Expr{Kind: api.ERecord}, "Names", []int{0}},
		{api.Expr{Kind: api.EWith, Names: ab, Kids: three}, "Names", []int{3}},
		{api.Expr{Kind: api.EField, Name: "a", Kids: three[:1]}, "Name", []int{1}},
		{api.Expr{Kind: api.EList, Kids: three}, "", anyNumber},
		{api.Expr{Kind: api.EComp, Names: ab, Kids: three}, "Names", []int{3}},
		{api.Expr{Kind: api.EComp, Names: []string{"", "b"}, Kids: three}, "Names", []int{3}},
		{api.Expr{Kind: api.ELet, Name: "x", Kids: three[:2]}, "Name", []int{2}},
		{api.Expr{Kind: api.EIf, Kids: three}, "", []int{3}},
		{api.Expr{Kind: api.EMatch, Names: []string{"A", "B"}, Binds: []string{"a", ""}, Kids: three}, "Names Binds", []int{3}},
		{api.Expr{Kind: api.EOp, Name: "not", Kids: three[:1]}, "Name", []int{1}},
		{api.Expr{Kind: api.EOp, Name: "+", Kids: three[:2]}, "Name", []int{2}},
		{api.Expr{Kind: api.EHole}, "", []int{0}},
	}
}

func TestUnusedFields(t *testing.T) { // P10.4
	for _, u := range usages() {
		checkInvalid(t, u.e, api.OK)
		placed := u.e
		placed.At, placed.End = 7, -3
		checkInvalid(t, placed, api.OK)
		for field, set := range map[string]func(e *api.Expr){
			"Name":  func(e *api.Expr) { e.Name = "x" },
			"N":     func(e *api.Expr) { e.N = 1 },
			"S":     func(e *api.Expr) { e.S = "x" },
			"Names": func(e *api.Expr) { e.Names = []string{""} },
			"Binds": func(e *api.Expr) { e.Binds = []string{""} },
		} {
			if slices.Contains(strings.Fields(u.used), field) {
				continue
			}
			e := u.e
			set(&e)
			checkInvalid(t, e, api.ErrArg)
			if field == "N" {
				e.N = -1
				checkInvalid(t, e, api.ErrArg)
			}
		}
	}
}

func TestNumbersOfKids(t *testing.T) { // P10.4
	for _, u := range usages() {
		for kids := range 6 {
			e := u.e
			e.Kids = slices.Repeat([]api.Expr{varX}, kids)
			want := api.ErrArg
			if slices.Contains(u.kids, kids) {
				want = api.OK
			}
			checkInvalid(t, e, want)
		}
	}
	for _, kind := range []int{api.ERecord, api.EWith, api.EComp, api.EMatch} {
		for n := range 4 * 5 * 4 {
			names, kids, binds := n%4, n/4%5, n/20
			want := api.ErrArg
			switch fits := names > 0 && kids == names+1; {
			case kind == api.ERecord && kids == names && binds == 0:
				want = api.OK
			case (kind == api.EWith || kind == api.EComp) && fits && binds == 0:
				want = api.OK
			case kind == api.EMatch && fits && binds == names:
				want = api.OK
			}
			name := "a"
			if kind == api.EMatch {
				name = "A"
			}
			e := api.Expr{Kind: kind, Names: slices.Repeat([]string{name}, names)}
			e.Kids = slices.Repeat([]api.Expr{varX}, kids)
			e.Binds = slices.Repeat([]string{"b"}, binds)
			checkInvalid(t, e, want)
		}
	}
	for _, name := range strings.Fields("or and == != < <= + - ++ *") {
		for kids := range 4 {
			want := api.ErrArg
			if kids == 2 {
				want = api.OK
			}
			checkInvalid(t, op(name, slices.Repeat([]api.Expr{varX}, kids)...), want)
		}
	}
	for _, name := range []string{"", "/", "NOT", "Not", "=", ">", ">=", " +", "+ ", "+++", "<-", "x", ".", "-> "} {
		for kids := range 4 {
			checkInvalid(t, op(name, slices.Repeat([]api.Expr{varX}, kids)...), api.ErrArg)
		}
	}
	for _, kind := range []int{-1, api.EBad, api.EBad + 1, 1000, math.MinInt, math.MaxInt} {
		checkInvalid(t, api.Expr{Kind: kind}, api.ErrArg)
		checkInvalid(t, call("f", varX, api.Expr{Kind: kind}), api.ErrArg)
	}
}

const (
	sixteen   = "abcdefghijklmnop"
	seventeen = sixteen + "q"
)

var (
	words      = []string{"x", "x_", "a1_b", "lets", "int", sixteen}
	noWords    = []string{"let", "not", "true", "key", "noT", "X", "1", "_x", "x-", "x y", " x", "x ", "x.y", "é", "?", "\"x\"", "#x", "x\n", "\x00", seventeen}
	capitals   = []string{"C", "Int", "Text", "C1b", "LET", "A" + sixteen[1:]}
	noCapitals = []string{"", "c", "C_", "C D", "C.D", " C", "C ", "1C", "É", "?", "true", "C\n", "A" + sixteen}
)

func TestNames(t *testing.T) { // P10.4
	check := func(set func(name string) api.Expr, good, bad []string) {
		for _, name := range good {
			checkInvalid(t, set(name), api.OK)
		}
		for _, name := range bad {
			checkInvalid(t, set(name), api.ErrName)
		}
	}
	noWordsAtAll := append([]string{""}, noWords...)
	list := func(names ...string) []string { return names }
	two := []api.Expr{varX, number}
	three := []api.Expr{varX, number, makeC}
	check(func(name string) api.Expr { return api.Expr{Kind: api.EVar, Name: name} }, words, noWordsAtAll)
	check(func(name string) api.Expr { return call(name) }, words, noWordsAtAll)
	check(func(name string) api.Expr { return call(name, varX) }, words, noWordsAtAll)
	check(func(name string) api.Expr { return api.Expr{Kind: api.ECall, Name: "f", S: name} }, append(words, ""), noWords)
	check(func(name string) api.Expr { return api.Expr{Kind: api.EField, Name: name, Kids: two[:1]} }, words, noWordsAtAll)
	check(func(name string) api.Expr { return api.Expr{Kind: api.ELet, Name: name, Kids: two} }, words, noWordsAtAll)
	check(func(name string) api.Expr { return api.Expr{Kind: api.EMake, Name: name} }, capitals, noCapitals)
	check(func(name string) api.Expr { return api.Expr{Kind: api.EMake, Name: name, Kids: two[:1]} }, capitals, noCapitals)
	for _, l := range []func(name string) []string{
		func(name string) []string { return list(name, "b") },
		func(name string) []string { return list("a", name) },
	} {
		check(func(name string) api.Expr { return api.Expr{Kind: api.ERecord, Names: l(name), Kids: two} }, words, noWordsAtAll)
		check(func(name string) api.Expr { return api.Expr{Kind: api.EWith, Names: l(name), Kids: three} }, words, noWordsAtAll)
		check(func(name string) api.Expr { return api.Expr{Kind: api.EComp, Names: l(name), Kids: three} }, append(words, ""), noWords)
		check(func(name string) api.Expr {
			return api.Expr{Kind: api.EMatch, Names: list("A", "B"), Binds: l(name), Kids: three}
		}, append(words, ""), noWords)
	}
	check(func(name string) api.Expr {
		return api.Expr{Kind: api.EMatch, Names: list(name, "B"), Binds: list("", "b"), Kids: three}
	}, capitals, noCapitals)
	check(func(name string) api.Expr {
		return api.Expr{Kind: api.EMatch, Names: list("A", name), Binds: list("", "b"), Kids: three}
	}, capitals, noCapitals)
}

func TestLimitsOfLiterals(t *testing.T) { // P10.4
	for n, want := range map[int]api.Errno{
		0: api.OK, 1: api.OK, api.MaxInt: api.OK,
		-1: api.ErrLimit, api.MaxInt + 1: api.ErrLimit, math.MinInt: api.ErrLimit, math.MaxInt: api.ErrLimit,
	} {
		checkInvalid(t, api.Expr{Kind: api.EInt, N: n}, want)
	}
	for n, want := range map[int]api.Errno{0: api.OK, 1: api.OK, -1: api.ErrArg, 2: api.ErrArg, 256: api.ErrArg, math.MinInt: api.ErrArg} {
		checkInvalid(t, api.Expr{Kind: api.EBool, N: n}, want)
	}
	long := strings.Repeat("é", api.MaxString/2)
	for s, want := range map[string]api.Errno{
		"": api.OK, "a b # \t\r": api.OK, long: api.OK, long + "x": api.ErrLimit, long + "\"": api.ErrArg,
		"\n": api.ErrArg, "a\"": api.ErrArg, "\xff": api.ErrArg, "é"[:1]: api.ErrArg, long + "\xff": api.ErrArg,
	} {
		checkInvalid(t, api.Expr{Kind: api.EText, S: s}, want)
	}
}

func TestOrderOfErrors(t *testing.T) { // P10.4
	// Within one node.
	checkInvalid(t, api.Expr{Kind: api.EVar, Name: "X", N: 1}, api.ErrArg)
	checkInvalid(t, api.Expr{Kind: api.EVar, Name: "", Kids: []api.Expr{varX}}, api.ErrArg)
	checkInvalid(t, api.Expr{Kind: api.EInt, N: -1, Name: "x"}, api.ErrArg)
	checkInvalid(t, api.Expr{Kind: api.EInt, N: -1, Kids: []api.Expr{varX}}, api.ErrArg)
	checkInvalid(t, api.Expr{Kind: api.EText, S: strings.Repeat("x", 65), Binds: []string{""}}, api.ErrArg)
	checkInvalid(t, api.Expr{Kind: api.ELet, Name: "X", Kids: []api.Expr{varX}}, api.ErrArg)
	// Between nodes: f(a(b, c), d(e)) with an error at two places.
	arg, name, limit := api.Expr{Kind: api.EBad}, api.Expr{Kind: api.EVar}, api.Expr{Kind: api.EInt, N: -1}
	errs := map[api.Errno]api.Expr{api.ErrArg: arg, api.ErrName: name, api.ErrLimit: limit}
	spoil := func(e *api.Expr, err api.Errno) bool {
		switch {
		case len(e.Kids) == 0:
			*e = errs[err]
		case err == api.ErrArg:
			e.N = 1
		case err == api.ErrName:
			e.Name = "F"
		default:
			return false
		}
		return true
	}
	for first := range 6 {
		for second := range 6 {
			for err := range errs {
				for other := range errs {
					inner := []api.Expr{call("a", varX, varX), call("d", varX)}
					e := call("f", inner...)
					nodes := []*api.Expr{&e, &inner[0], &inner[0].Kids[0], &inner[0].Kids[1], &inner[1], &inner[1].Kids[0]}
					if first < second && spoil(nodes[first], err) && spoil(nodes[second], other) {
						checkInvalid(t, e, err)
					}
				}
			}
		}
	}
}

// wrappers make expressions that have another one as a part, by the levels of nesting that this adds.
func wrappers() map[string][]func(e api.Expr) api.Expr {
	with := func(e api.Expr, names []string, kids ...api.Expr) api.Expr {
		e.Names, e.Kids = names, kids
		return e
	}
	a, ab := []string{"a"}, []string{"a", "b"}
	return map[string][]func(e api.Expr) api.Expr{
		"one": {
			func(e api.Expr) api.Expr { return call("f", varX, e) },
			func(e api.Expr) api.Expr { return api.Expr{Kind: api.ECall, S: "m", Name: "f", Kids: []api.Expr{e}} },
			func(e api.Expr) api.Expr { return api.Expr{Kind: api.EMake, Name: "C", Kids: []api.Expr{e}} },
			func(e api.Expr) api.Expr { return with(api.Expr{Kind: api.ERecord}, ab, varX, e) },
			func(e api.Expr) api.Expr { return with(api.Expr{Kind: api.EWith}, a, e, varX) },
			func(e api.Expr) api.Expr { return with(api.Expr{Kind: api.EWith}, ab, varX, varX, e) },
			func(e api.Expr) api.Expr { return api.Expr{Kind: api.EList, Kids: []api.Expr{number, e}} },
			func(e api.Expr) api.Expr { return with(api.Expr{Kind: api.EComp}, a, e, varX) },
			func(e api.Expr) api.Expr { return with(api.Expr{Kind: api.EComp}, a, varX, e) },
			func(e api.Expr) api.Expr {
				return with(api.Expr{Kind: api.EComp}, []string{"a", ""}, varX, varX, e)
			},
			func(e api.Expr) api.Expr { return api.Expr{Kind: api.ELet, Name: "x", Kids: []api.Expr{e, varX}} },
			func(e api.Expr) api.Expr { return api.Expr{Kind: api.ELet, Name: "x", Kids: []api.Expr{varX, e}} },
			func(e api.Expr) api.Expr { return api.Expr{Kind: api.EIf, Kids: []api.Expr{e, varX, varX}} },
			func(e api.Expr) api.Expr { return api.Expr{Kind: api.EIf, Kids: []api.Expr{varX, e, varX}} },
			func(e api.Expr) api.Expr { return api.Expr{Kind: api.EIf, Kids: []api.Expr{varX, varX, e}} },
			func(e api.Expr) api.Expr {
				return with(api.Expr{Kind: api.EMatch, Binds: []string{"x"}}, []string{"A"}, e, varX)
			},
			func(e api.Expr) api.Expr {
				return with(api.Expr{Kind: api.EMatch, Binds: []string{""}}, []string{"A"}, varX, e)
			},
			func(e api.Expr) api.Expr { return op("not", e) },
		},
		// An operand that needs parentheses.
		"two": {
			func(e api.Expr) api.Expr {
				return op("+", varX, api.Expr{Kind: api.EIf, Kids: []api.Expr{varX, e, varX}})
			},
			func(e api.Expr) api.Expr {
				return op("not", api.Expr{Kind: api.ELet, Name: "x", Kids: []api.Expr{varX, call("f", e)}})
			},
			func(e api.Expr) api.Expr {
				return api.Expr{Kind: api.EField, Name: "a", Kids: []api.Expr{op("not", api.Expr{Kind: api.EList, Kids: []api.Expr{e}})}}
			},
		},
	}
}

func TestNestingThatIsAllowed(t *testing.T) { // P10.4
	// Each wrapper of one level nests what is no operand that needs parentheses.
	for i, wrap := range wrappers()["one"] {
		e := makeC
		for range api.MaxDepth - 1 {
			e = wrap(e)
		}
		if Valid(e) != api.OK || Valid(wrap(e)) != api.ErrLimit {
			t.Errorf("wrapper %d: Valid returns %v and %v", i, Valid(e), Valid(wrap(e)))
		}
		checkInvalid(t, wrap(wrap(e)), api.ErrLimit)
		// The nesting is looked at last.
		checkInvalid(t, op("*", wrap(e), api.Expr{Kind: api.EVar}), api.ErrName)
		checkInvalid(t, op("*", wrap(e), api.Expr{Kind: api.EBad}), api.ErrArg)
	}
	for _, name := range []string{"or", "and", "+", "-", "++", "*"} {
		left, right := varX, varX
		for range 500 {
			left = op(name, left, number)
		}
		for range api.MaxDepth - 1 {
			right = op(name, number, right)
		}
		checkInvalid(t, left, api.OK)
		checkInvalid(t, right, api.OK)
		checkInvalid(t, op(name, number, right), api.OK)
		checkInvalid(t, op(name, number, op(name, number, right)), api.ErrLimit)
	}
	field := varX
	for range 500 {
		field = api.Expr{Kind: api.EField, Name: "a", Kids: []api.Expr{field}}
	}
	checkInvalid(t, field, api.OK)
}

func TestNestingAgainstParser(t *testing.T) { // P10.4, P10.10
	random := rand.New(rand.NewPCG(10, 3))
	all := slices.Concat(wrappers()["one"], wrappers()["two"])
	tooDeep := 0
	for range 5000 {
		e := api.Expr{Kind: api.EHole}
		for range 15 + random.IntN(35) {
			switch random.IntN(6) {
			case 0:
				e = api.Expr{Kind: api.EField, Name: "a", Kids: []api.Expr{e}}
			case 1, 2:
				l := strings.Fields("or and == != < <= + - ++ *")
				e = op(l[random.IntN(len(l))], e, varX)
				if random.IntN(2) == 0 {
					e.Kids[0], e.Kids[1] = e.Kids[1], e.Kids[0]
				}
			default:
				e = all[random.IntN(len(all))](e)
			}
		}
		want := api.OK
		source := modelSource(e)
		if _, problems := parser.Expression(source); len(problems) > 0 {
			want = api.ErrLimit
			tooDeep++
		}
		got, err := PrintExpr(e)
		if err != want || Valid(e) != want || err == api.OK && got != source {
			t.Fatalf("PrintExpr returns %q and %v, want %q and %v", got, err, source, want)
		}
	}
	if tooDeep < 500 || tooDeep > 4500 {
		t.Errorf("%d expressions are nested too deeply", tooDeep)
	}
}
