package ast

import (
	"math/rand/v2"
	"strings"
	"testing"

	"schemalens/api"
	"schemalens/parser"
)

// samples are texts without problems, with each production and each optional part.
func samples() []string {
	return []string{
		"type T = A | B ( [ { a : Int , b : { } } ] )",
		"table t { a : Int , b : [ Text ] } key ( a , b ) ref a to u ref b to v check a < 1",
		"fun f ( x , y : Int , z : [ T ] = 1 ) : Bool = not x . a == y + 2",
		"fun f ( ) = let x = g ( 1 ) in if x then m . f ( a , b ) else C ( y )",
		"fun f ( ) = match x { A -> 1 , B ( y ) -> { a = 1 , b = ? } } fun g ( ) = { }",
		"fun f ( ) = [ ( x ) | x <- t , y , z <- [ 1 , \"s\" ] ] ++ [ ] * 2 or true and { x with a = 1 , b = 2 }",
		"proc p ( x = { a = 1 } ) = insert t a ; delete t as x where a ; update t as y where b set c",
		"fun f ( ) = [ [ a | b ] , { { } with a = D } . b . c ] type T = A table t { } key ( a )",
	}
}

// vocabulary has a word for each role in the grammar, words beyond their limits, and fillers.
func vocabulary() []string {
	words := strings.Fields(`x C Int 1 "s" 99999999999999 abcdefghijklmnopq "é ~ " ? == <= <- -> ++ * = ( ) { } [ ] , . : | ;`)
	return append(words, strings.Fields("type table key ref to check fun proc let in if then else match insert delete as where update set with and or not true")...)
}

// forEdits calls check with all texts that differ from a sample in one word, and with all
// beginnings and ends of samples.
func forEdits(check func(s string)) {
	for _, sample := range samples() {
		words := strings.Fields(sample)
		for i := range len(words) + 1 {
			before, after := strings.Join(words[:i], " "), strings.Join(words[i:], " ")
			_, behind, _ := strings.Cut(after, " ")
			check(before)
			check(after)
			check(before + " " + behind)
			for _, w := range vocabulary() {
				check(before + " " + w + " " + behind)
				check(before + " " + w + " # c\n" + after)
			}
		}
	}
}

func TestLowerAgainstModel(t *testing.T) { // P10.1, P10.2, P10.3
	check := func(s string) {
		tree, _ := parser.Parse(s)
		if got, want := showModule(Lower("m", tree)), showModule(modelModule("m", tree)); got != want {
			t.Fatalf("%q is\n%s, want\n%s", s, got, want)
		}
	}
	forEdits(check)
	words := vocabulary()
	for _, a := range words {
		for _, b := range words {
			check(a + " " + b)
			check("fun f() = " + a + " " + b)
			check("proc p() = " + a + " " + b)
			check("fun f() = (x " + a + " " + b + ")")
		}
	}
	random := rand.New(rand.NewPCG(10, 1))
	for range 5000 {
		var l []string
		for _, sample := range samples() {
			if random.IntN(4) == 0 {
				l = append(l, strings.Fields(sample)...)
			}
		}
		for range random.IntN(6) {
			if len(l) > 0 {
				l[random.IntN(len(l))] = words[random.IntN(len(words))]
			}
		}
		check(strings.Join(l, " "))
	}
}

func TestParseExprAgainstModel(t *testing.T) { // P10.8
	clean := 0
	check := func(s string) {
		tree, problems := parser.Expression(s)
		want, err := api.Expr{}, api.ErrForm
		if len(problems) == 0 {
			want, err = modelExpr(place{tree.Kids[0], 0}), api.OK
			clean++
		}
		got, gotErr := ParseExpr(s)
		if gotErr != err || showExpr(got) != showExpr(want) {
			t.Fatalf("ParseExpr(%q) returns %s and %v, want %s and %v", s, showExpr(got), gotErr, showExpr(want), err)
		}
	}
	forEdits(func(s string) {
		_, expr, _ := strings.Cut(s, ") =")
		check(expr)
	})
	words := vocabulary()
	for _, a := range words {
		for _, b := range words {
			for _, c := range strings.Fields("x ( ) ] } , . 1") {
				check(a + " " + b + c)
			}
		}
	}
	if clean < 1000 {
		t.Errorf("only %d expressions have no problems", clean)
	}
}

func TestParseTypeAgainstModel(t *testing.T) { // P10.8
	words := strings.Fields(`Int T x : , [ ] { } ( ) | = type C Abcdefghijklmnopq ~ " #c`)
	random := rand.New(rand.NewPCG(10, 2))
	clean := 0
	check := func(s string) {
		// In a column, a type ends before the bracket, but other columns can follow it.
		tree, problems := parser.Parse("table t {x:\n" + s + "\n} key(x)")
		table := (place{tree, 0}).parts()[0].parts(api.NField)
		want, err := api.Type{}, api.ErrForm
		if len(problems) == 0 && len(table) == 1 && len((place{tree, 0}).parts()) == 1 {
			want, err = modelType(table[0]), api.OK
			clean++
		}
		got, gotErr := ParseType(s)
		if gotErr != err || showType(got) != showType(want) {
			t.Fatalf("ParseType(%q) returns %s and %v, want %s and %v", s, showType(got), gotErr, showType(want), err)
		}
	}
	for _, a := range words {
		for _, b := range words {
			for _, c := range words {
				check(a + " " + b + " " + c)
				check("[" + a + b + c)
				check("{x:" + a + b + " " + c + "}")
			}
		}
	}
	for range 5000 {
		l := strings.Fields("{ b : Int , a : [ { c : T , b : Text , c : { } } ] }")
		for range random.IntN(3) {
			l[random.IntN(len(l))] = words[random.IntN(len(words))]
		}
		check(strings.Join(l, " "))
	}
	if clean < 100 {
		t.Errorf("only %d types have no problems", clean)
	}
}
