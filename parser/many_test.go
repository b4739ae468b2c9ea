package parser

import (
	"math/rand/v2"
	"slices"
	"strings"
	"testing"

	"schemalens/api"
	"schemalens/lexer"
)

// samples are texts without problems, with each production and each optional part.
func samples() []string {
	return []string{
		"type T = A | B ( [ { a : Int , b : { } } ] )",
		"table t { a : Int , b : [ Text ] } key ( a , b ) ref a to u ref b to v check a < 1",
		"fun f ( x , y : Int , z : [ T ] = 1 ) : Bool = not x . a == y + 2",
		"fun f ( ) = let x = g ( 1 ) in if x then m . f ( a , b ) else C ( y )",
		"fun f ( ) = match x { A -> 1 , B ( y ) -> { a = 1 , b = ? } } fun g ( ) = { }",
		"fun f ( ) = [ ( x ) | x <- t , y , z <- [ 1 , \"s\" ] ] ++ [ ] * 2 or true and { x with a = 1 , b = 2 }",
		"proc p ( x = { a = 1 } ) = insert t a ; delete t as x where a ; update t as y where b set c",
		"fun f ( ) = [ [ a | b ] , { { } with a = D } . b . c ] type T = A table t { } key ( a )",
	}
}

// distinct is the vocabulary without words that stand where others do.
func distinct() []string {
	alike := strings.Fields("true false != < <= - ++ delete table type let match")
	return slices.DeleteFunc(vocabulary(), func(w string) bool { return slices.Contains(alike, w) })
}

// forEdits calls check with all texts that differ from a sample in one word, and with all
// beginnings of samples with one word behind them.
func forEdits(check func(s string)) {
	for _, sample := range samples() {
		words := strings.Fields(sample)
		for i := range len(words) + 1 {
			before, after := strings.Join(words[:i], " "), strings.Join(words[i:], " ")
			check(before)
			check(after)
			_, behind, _ := strings.Cut(after, " ")
			check(before + " " + behind)
			for _, w := range distinct() {
				check(before + " " + w + " " + behind)
				check(before + " " + w + " " + after)
				check(before + " " + w)
			}
		}
	}
}

// forShortTexts calls check with all texts of at most two words, alone and in a function,
// and with those of three words from a part of them.
func forShortTexts(check func(s string)) {
	check("")
	few := strings.Fields("fun x C 1 ( ) { } [ ] , . = | -> <- with let in not or + if match then")
	for _, a := range vocabulary() {
		check(a)
		check("fun f() = " + a)
		for _, b := range vocabulary() {
			check(a + " " + b)
			check("fun f() = " + a + " " + b)
		}
	}
	for _, a := range few {
		for _, b := range few {
			for _, c := range few {
				check("fun f() = " + a + " " + b + " " + c)
			}
		}
	}
}

// An author writes texts that the grammar allows.
type author struct {
	random *rand.Rand
	rules  *rulebook
	words  []string
	enough int // words, after which no part is written that may be left out
}

func newAuthor(seed uint64, enough int) *author {
	return &author{rand.New(rand.NewPCG(8, seed)), newRulebook(), nil, enough}
}

// write returns the node of a production, without fillers, and its words. No place has a
// nesting greater than the budget plus 1.
func (a *author) write(name string, budget int) (api.Node, []string) {
	a.words = nil
	n := api.Node{Kind: api.NModule}
	a.part(&n, name, budget)
	if name == "module" {
		n = n.Kids[0]
	}
	return n, a.words
}

func (a *author) part(n *api.Node, name string, budget int) {
	if len(a.words) > a.enough {
		budget = 0
	}
	l := a.rules.productions[name]
	chosen := l[a.random.IntN(len(l))]
	if budget <= 0 {
		chosen = a.shortest(name)
	}
	if name == "expr" || name == "type" || name == "not" && chosen.kind == api.NUnary {
		budget--
	}
	switch {
	case slices.Contains([]string{"or", "and", "cmp", "sum", "product", "dot"}, name):
		a.operators(n, chosen, budget)
	case chosen.kind == 0:
		a.items(n, chosen.items, budget)
	default:
		kid := api.Node{Kind: chosen.kind}
		a.items(&kid, chosen.items, budget)
		n.Kids = append(n.Kids, kid)
	}
}

// shortest returns an alternative that nests nothing.
func (a *author) shortest(name string) alternative {
	l := a.rules.productions[name]
	switch name {
	case "atom":
		return l[a.random.IntN(5)] // a literal or a hole
	case "type":
		return l[0]
	case "expr", "not":
		return l[len(l)-1]
	}
	return l[a.random.IntN(len(l))]
}

// goesOn reports whether to write a further part that may be left out.
func (a *author) goesOn(budget, chance int) bool {
	return budget > 0 && len(a.words) < a.enough && a.random.IntN(chance) == 0
}

func (a *author) operators(n *api.Node, chosen alternative, budget int) {
	all := api.Node{}
	more := chosen.items[1]
	a.items(&all, chosen.items[:1], budget)
	for a.goesOn(budget, 5) {
		all = api.Node{Kids: []api.Node{{Kind: chosen.kind, Kids: all.Kids}}}
		a.items(&all.Kids[0], more.alternatives[0], budget)
		if more.what == anOption {
			break
		}
	}
	n.Kids = append(n.Kids, all.Kids...)
}

func (a *author) items(n *api.Node, l []item, budget int) {
	for _, x := range l {
		switch {
		case x.what == aPart:
			a.part(n, x.name, budget)
		case x.what == aToken:
			a.token(n, x.name)
		case x.what == aGroup:
			a.items(n, x.alternatives[a.random.IntN(len(x.alternatives))], budget)
		case a.goesOn(budget, 2):
			a.items(n, x.alternatives[0], budget)
			if x.what == aRepetition {
				a.items(n, []item{x}, budget)
			}
		}
	}
}

func (a *author) token(n *api.Node, name string) {
	texts := map[string][]string{
		"lower": {"x", "y", "t1", "a_b", "fun_"}, "Upper": {"C", "Int", "T1"}, "Number": {"0", "12", "007"}, "String": {`""`, `"s"`, `"# )"`},
	}
	text := name
	if l := texts[name]; l != nil {
		text = l[a.random.IntN(len(l))]
	}
	a.words = append(a.words, text)
	n.Kids = append(n.Kids, api.Node{Kind: lexer.Tokens(text)[0].Kind, Text: text})
}

// dress returns a text with these words and fillers between them.
func (a *author) dress(words []string) string {
	fillers := []string{" ", "\n", " # fun f ( \n", " $ ", "\t%&\n", "#\n#\n", " \"then\n", "$\r"}
	var b strings.Builder
	for i, w := range words {
		loose := a.random.IntN(2) == 0
		if i > 0 && (loose || lexer.Join(words[i-1:i+1]) != words[i-1]+w) {
			b.WriteString(fillers[a.random.IntN(len(fillers))])
		}
		b.WriteString(w)
	}
	return b.String() + []string{"", "", " ", "# end", "\n", " $ "}[a.random.IntN(6)]
}

// spoilWords returns words of which some have been left out, put in or exchanged.
func (a *author) spoilWords(words []string) []string {
	all := vocabulary()
	var l []string
	for _, w := range words {
		switch a.random.IntN(20) {
		case 0:
		case 1:
			l = append(l, all[a.random.IntN(len(all))])
		case 2:
			l = append(l, w, all[a.random.IntN(len(all))])
		default:
			l = append(l, w)
		}
	}
	return l
}

// forAuthored calls check with texts that the grammar allows, and with spoilt ones.
func forAuthored(seed uint64, texts int, check func(a *author, words []string)) {
	a := newAuthor(seed, 50)
	for i := range texts {
		_, words := a.write([]string{"module", "decl", "expr"}[i%3], i%5+1)
		check(a, words)
		for range 3 {
			check(a, a.spoilWords(words))
		}
	}
}

// same reports whether two trees are equal, with their IDs.
func same(a, b api.Node) bool {
	return a.ID == b.ID && a.Kind == b.Kind && a.Text == b.Text && slices.EqualFunc(a.Kids, b.Kids, same)
}

func hasError(n api.Node) bool {
	return n.Kind == api.NError || slices.ContainsFunc(n.Kids, hasError)
}

// checkModel compares the results for a text with those of the model.
func checkModel(t *testing.T, r *rulebook, f parse, g func(*rulebook, string) (api.Node, []api.Problem), s string) {
	t.Helper()
	tree, problems := f(s)
	want, wantProblems := g(r, s)
	if !same(tree, want) || showProblems(problems) != showProblems(wantProblems) {
		t.Errorf("the tree of %q is\n%s with the problems %s, want\n%s with %s",
			s, show(tree), showProblems(problems), show(want), showProblems(wantProblems))
	}
	checkLeaves(t, tree, s)
	isWrong := slices.ContainsFunc(problems, func(p api.Problem) bool { return p.Code == api.CodeSyntax })
	if isWrong != hasError(tree) {
		t.Errorf("the tree of %q is %s, but the problems are %s", s, show(tree), showProblems(problems))
	}
}

func TestEditsOfSamples(t *testing.T) { // P8.1 to P8.5, P8.7, P8.9, P8.10
	t.Parallel()
	r := newRulebook()
	for _, s := range samples() {
		checkClean(t, Parse, s)
	}
	forEdits(func(s string) { checkModel(t, r, Parse, modelParse, s) })
}

func TestShortTexts(t *testing.T) { // P8.1 to P8.5, P8.7 to P8.10
	t.Parallel()
	r := newRulebook()
	forShortTexts(func(s string) {
		checkModel(t, r, Parse, modelParse, s)
		checkModel(t, r, Expression, modelExpression, s)
	})
}

func TestAuthoredTexts(t *testing.T) { // P8.1 to P8.10
	t.Parallel()
	forAuthored(1, 1500, func(a *author, words []string) {
		s := a.dress(words)
		checkModel(t, a.rules, Parse, modelParse, s)
		checkModel(t, a.rules, Expression, modelExpression, s)
	})
}

// bare returns the tree without fillers.
func bare(n api.Node) api.Node {
	return without(n, api.Space, api.Comment, api.Bad)
}

func TestTreesAreDerivations(t *testing.T) { // P8.1, P8.10
	t.Parallel()
	a := newAuthor(2, 150)
	for i := range 1500 {
		name := []string{"module", "decl", "expr"}[i%3]
		want, words := a.write(name, i%8*i%api.MaxDepth)
		f := Parse
		if name == "expr" {
			f = Expression
		}
		s := a.dress(words)
		tree, problems := f(s)
		if !same(bare(tree), bare(want)) {
			t.Errorf("the tree of %q is %s, want %s", s, show(tree), show(want))
		}
		for _, p := range problems {
			if p.Code != api.CodeToken || s[p.At] != '$' && s[p.At] != '%' && s[p.At] != '"' {
				t.Errorf("the problems of %q are %s", s, showProblems(problems))
			}
		}
	}
}

// A mark is a problem by the number of the token that it is at, counted without fillers.
type mark struct{ token, width, code int }

// marks returns the problems of a text that are not at fillers.
func marks(s string, l []api.Problem) []mark {
	numbers := map[int]int{}
	tokens := 0
	for _, t := range lexer.Tokens(s) {
		if !isFiller(t.Kind) {
			numbers[t.At] = tokens
			tokens++
		}
	}
	numbers[len(s)] = tokens
	var all []mark
	for _, p := range l {
		if number, ok := numbers[p.At]; ok {
			all = append(all, mark{number, p.End - p.At, p.Code})
		}
	}
	return all
}

func TestFillersChangeNothingElse(t *testing.T) { // P8.12
	t.Parallel()
	forAuthored(3, 1000, func(a *author, words []string) {
		s, other := strings.Join(words, " "), a.dress(words)
		for _, f := range []parse{Parse, Expression} {
			tree, problems := f(s)
			otherTree, otherProblems := f(other)
			if !same(bare(tree), bare(otherTree)) || !slices.Equal(marks(s, problems), marks(other, otherProblems)) {
				t.Errorf("the tree of %q is %s, and that of %q is %s", s, show(tree), other, show(otherTree))
			}
		}
	})
}

// divide returns the parts of a text that begin with the words with which a declaration
// begins, behind the part before the first one.
func divide(s string) []string {
	var l []string
	from := 0
	for _, x := range lexer.Tokens(s) {
		if slices.Contains(starters, x.Text) {
			l = append(l, s[from:x.At])
			from = x.At
		}
	}
	return append(l, s[from:])
}

func countTokens(s string) int {
	n := 0
	for _, t := range lexer.Tokens(s) {
		if !isFiller(t.Kind) {
			n++
		}
	}
	return n
}

func TestPartsAreIndependent(t *testing.T) { // P8.11
	t.Parallel()
	forAuthored(4, 1000, func(a *author, words []string) {
		s := a.dress(words)
		tree, problems := Parse(s)
		joined := api.Node{Kind: api.NModule}
		var found []mark
		before := 0
		for _, part := range divide(s) {
			partTree, partProblems := Parse(part)
			joined.Kids = append(joined.Kids, bare(partTree).Kids...)
			for _, m := range marks(part, partProblems) {
				m.token += before
				found = append(found, m)
			}
			before += countTokens(part)
		}
		got := marks(s, problems)
		// At the end of a part, there is no token yet.
		for i := range got {
			if i < len(found) && found[i].width == 0 {
				found[i].width = got[i].width
			}
		}
		if !same(bare(tree), joined) || !slices.Equal(got, found) {
			t.Errorf("the tree of %q is %s, that of its parts is %s", s, show(tree), show(joined))
		}
	})
}
