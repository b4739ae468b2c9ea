package lexer

import (
	"slices"
	"strings"
	"testing"

	"schemalens/api"
)

// An expected token: its text and its kind; the offset follows from those before it.
type expected struct {
	text string
	kind int
}

func checkTokens(t *testing.T, s string, want []expected) {
	t.Helper()
	var l []api.Token
	at := 0
	for _, e := range want {
		l = append(l, api.Token{Kind: e.kind, Text: e.text, At: at})
		at += len(e.text)
	}
	if got := Tokens(s); !slices.Equal(got, l) {
		t.Errorf("Tokens(%+q) = %#v, want %#v", s, got, l)
	}
}

func TestExamples(t *testing.T) { // P6.1, P6.4, P6.5
	want := []api.Token{
		{Kind: api.Lower, Text: "x", At: 0},
		{Kind: api.Symbol, Text: "<-", At: 1},
		{Kind: api.Number, Text: "1", At: 3},
		{Kind: api.Space, Text: " ", At: 4},
		{Kind: api.Bad, Text: "!", At: 5},
		{Kind: api.Lower, Text: "y", At: 6},
		{Kind: api.Comment, Text: "#z", At: 7},
	}
	if got := Tokens("x<-1 !y#z"); !slices.Equal(got, want) {
		t.Errorf("the tokens are %#v, want %#v", got, want)
	}
	if got, err := Quote("a b"); got != `"a b"` || err != api.OK {
		t.Errorf("Quote = %+q and the error %d", got, err)
	}
	if got, err := Quote("a\nb"); got != "" || err != api.ErrArg {
		t.Errorf("Quote of a text with a byte 10 = %+q and the error %d", got, err)
	}
	if got := Join([]string{"let", "x", "=", "=", "#c", "1"}); got != "let x= =#c\n1" {
		t.Errorf("Join = %+q", got)
	}
}

func TestTokensOfOneKind(t *testing.T) { // P6.1
	for kind, texts := range map[int][]string{
		api.Space:   {" ", "\t", "\n", "\r", "\r\n", " \t\n\r \n", strings.Repeat(" ", 100)},
		api.Comment: {"#", "##", "# a\tb\r", "#\"", "#\"x\"", "#\xff\x80", "# \u20ac", "#\x00", "#" + strings.Repeat("x", 5000)},
		api.Keyword: words,
		api.Lower: {
			"a", "z", "m", "a_", "a0", "z9", "x_1_y", "a__", "types", "typ", "let_", "let1", "inn", "i",
			"abcdefghijklmnopqrstuvwxyz_0123456789",
		},
		api.Upper: {
			"A", "Z", "M", "Ab", "AB", "A0", "Z9z", "Let", "LET", "True", "Aa0Zz9",
			"ABCDEFGHIJKLMNOPQRSTUVWXYZabcdefghijklmnopqrstuvwxyz0123456789",
		},
		api.Number: {"0", "9", "10", "00", "007", "0123456789", "1099511627777", strings.Repeat("9", 100)},
		api.String: {
			`""`, `"a"`, `" "`, `"#"`, `"let"`, `"\"`, "\"\t\r\"", "\"\x00\"", "\"\xff\"", "\"\u20ac\"",
			`"` + strings.Repeat("x", 5000) + `"`,
		},
		api.Symbol: signs,
		api.Bad: {
			`"`, `"a`, `"#`, `"a b = 1`, "\"\r", "\"\xff", "!", "!!", "_", "__", "&&", "@$%&/'\\^`~",
			"\x00", "\x01\x08", "\x0b\x0c", "\x0e\x1f", "\x7f", "\x80\xff", "\u00e9", "\u20ac\U0001F600", "\u00a0", "\u2028", "\ufeff", "\u0663",
		},
	} {
		for _, s := range texts {
			checkTokens(t, s, []expected{{s, kind}})
		}
	}
}

func TestTokens(t *testing.T) { // P6.1
	for _, c := range []struct {
		text string
		want []expected
	}{
		{"", nil},
		{"a b", []expected{{"a", api.Lower}, {" ", api.Space}, {"b", api.Lower}}},
		{"aB", []expected{{"a", api.Lower}, {"B", api.Upper}}},
		{"Ab_c", []expected{{"Ab", api.Upper}, {"_", api.Bad}, {"c", api.Lower}}},
		{"_a", []expected{{"_", api.Bad}, {"a", api.Lower}}},
		{"_A", []expected{{"_", api.Bad}, {"A", api.Upper}}},
		{"_1", []expected{{"_", api.Bad}, {"1", api.Number}}},
		{"1a", []expected{{"1", api.Number}, {"a", api.Lower}}},
		{"1_0", []expected{{"1", api.Number}, {"_", api.Bad}, {"0", api.Number}}},
		{"-1", []expected{{"-", api.Symbol}, {"1", api.Number}}},
		{"1.5", []expected{{"1", api.Number}, {".", api.Symbol}, {"5", api.Number}}},
		{"letIn", []expected{{"let", api.Keyword}, {"In", api.Upper}}},
		{"let-in", []expected{{"let", api.Keyword}, {"-", api.Symbol}, {"in", api.Keyword}}},
		{"let\u00e9", []expected{{"let", api.Keyword}, {"\u00e9", api.Bad}}},

		{"===", []expected{{"==", api.Symbol}, {"=", api.Symbol}}},
		{"<==", []expected{{"<=", api.Symbol}, {"=", api.Symbol}}},
		{"<->", []expected{{"<-", api.Symbol}, {">", api.Symbol}}},
		{"-->", []expected{{"-", api.Symbol}, {"->", api.Symbol}}},
		{"+++", []expected{{"++", api.Symbol}, {"+", api.Symbol}}},
		{">=", []expected{{">", api.Symbol}, {"=", api.Symbol}}},
		{"<<=", []expected{{"<", api.Symbol}, {"<=", api.Symbol}}},
		{"||", []expected{{"|", api.Symbol}, {"|", api.Symbol}}},
		{"<-=", []expected{{"<-", api.Symbol}, {"=", api.Symbol}}},
		{"(){}[]", []expected{{"(", api.Symbol}, {")", api.Symbol}, {"{", api.Symbol}, {"}", api.Symbol}, {"[", api.Symbol}, {"]", api.Symbol}}},
		{"= =", []expected{{"=", api.Symbol}, {" ", api.Space}, {"=", api.Symbol}}},

		{"!=", []expected{{"!=", api.Symbol}}},
		{"!==", []expected{{"!=", api.Symbol}, {"=", api.Symbol}}},
		{"!!=", []expected{{"!", api.Bad}, {"!=", api.Symbol}}},
		{"&!!=", []expected{{"&!", api.Bad}, {"!=", api.Symbol}}},
		{"! =", []expected{{"!", api.Bad}, {" ", api.Space}, {"=", api.Symbol}}},
		{"&=", []expected{{"&", api.Bad}, {"=", api.Symbol}}},
		{"&#c", []expected{{"&", api.Bad}, {"#c", api.Comment}}},
		{"&\n&", []expected{{"&", api.Bad}, {"\n", api.Space}, {"&", api.Bad}}},
		{"\xff\xfeA", []expected{{"\xff\xfe", api.Bad}, {"A", api.Upper}}},
		{"\u20ac\u20ac1", []expected{{"\u20ac\u20ac", api.Bad}, {"1", api.Number}}},
		{"a\u00a0b", []expected{{"a", api.Lower}, {"\u00a0", api.Bad}, {"b", api.Lower}}},
		{" \x0b ", []expected{{" ", api.Space}, {"\x0b", api.Bad}, {" ", api.Space}}},

		{"#a\n#b", []expected{{"#a", api.Comment}, {"\n", api.Space}, {"#b", api.Comment}}},
		{"#a\r\nb", []expected{{"#a\r", api.Comment}, {"\n", api.Space}, {"b", api.Lower}}},
		{"#\n", []expected{{"#", api.Comment}, {"\n", api.Space}}},
		{"x#\"y", []expected{{"x", api.Lower}, {"#\"y", api.Comment}}},

		{`""""`, []expected{{`""`, api.String}, {`""`, api.String}}},
		{`"a"b"c"`, []expected{{`"a"`, api.String}, {"b", api.Lower}, {`"c"`, api.String}}},
		{`"a\"b`, []expected{{`"a\"`, api.String}, {"b", api.Lower}}},
		{`"""`, []expected{{`""`, api.String}, {`"`, api.Bad}}},
		{`"#"#"`, []expected{{`"#"`, api.String}, {`#"`, api.Comment}}},
		{`&"x"`, []expected{{"&", api.Bad}, {`"x"`, api.String}}},
		{`&"x y`, []expected{{"&", api.Bad}, {`"x y`, api.Bad}}},
		{"\"a\nb\"", []expected{{`"a`, api.Bad}, {"\n", api.Space}, {"b", api.Lower}, {`"`, api.Bad}}},
		{"\"\n\"", []expected{{`"`, api.Bad}, {"\n", api.Space}, {`"`, api.Bad}}},
		{"\"a\r\nb", []expected{{"\"a\r", api.Bad}, {"\n", api.Space}, {"b", api.Lower}}},
	} {
		checkTokens(t, c.text, c.want)
	}
}

func TestTokensReturnsNewMemory(t *testing.T) { // R4
	first := Tokens("a b")
	first[0], first[1] = api.Token{}, api.Token{}
	checkTokens(t, "a b", []expected{{"a", api.Lower}, {" ", api.Space}, {"b", api.Lower}})
}

func TestIsKeyword(t *testing.T) { // P6.2
	for _, k := range words {
		if !IsKeyword(k) {
			t.Errorf("IsKeyword(%q) = false", k)
		}
		for _, s := range []string{k + "s", k + "_", k + " ", " " + k, k + "\x00", k[1:], k[:len(k)-1], strings.ToUpper(k), strings.ToUpper(k[:1]) + k[1:]} {
			if IsKeyword(s) != slices.Contains(words, s) {
				t.Errorf("IsKeyword(%q) = %t", s, IsKeyword(s))
			}
		}
	}
	for _, s := range append(slices.Clone(signs), "", " ", "let in", "int", "text", "bool", "from", "end", "module", "import", "Int", "1", `"let"`, "\xff") {
		if IsKeyword(s) {
			t.Errorf("IsKeyword(%q) = true", s)
		}
	}
}

// forWords calls check with all words of at most three small letters.
func forWords(check func(s string)) {
	const letters = "abcdefghijklmnopqrstuvwxyz"
	for _, a := range letters {
		check(string(a))
		for _, b := range letters {
			check(string(a) + string(b))
			for _, c := range letters {
				check(string(a) + string(b) + string(c))
			}
		}
	}
}

func TestShortKeywords(t *testing.T) { // P6.1, P6.2
	var got []string
	forWords(func(s string) {
		if IsKeyword(s) {
			got = append(got, s)
		}
		if l := Tokens(s); len(l) != 1 || (l[0].Kind == api.Keyword) != IsKeyword(s) {
			t.Errorf("Tokens(%q) = %#v", s, l)
		}
	})
	want := []string{"and", "as", "fun", "if", "in", "key", "let", "not", "or", "ref", "set", "to"}
	if slices.Sort(got); !slices.Equal(got, want) {
		t.Errorf("the keywords of at most three letters are %q, want %q", got, want)
	}
}

func TestFits(t *testing.T) { // P6.3
	for _, c := range []struct {
		kind int
		text string
		want bool
	}{
		{api.Lower, "a", true},
		{api.Lower, "abcdefghijklmnop", true},
		{api.Lower, "abcdefghijklmnopq", false},
		{api.Lower, "a______________9", true},
		{api.Lower, "a_______________9", false},
		{api.Upper, "A", true},
		{api.Upper, "Abcdefghijklmnop", true},
		{api.Upper, "Abcdefghijklmnopq", false},
		{api.Number, "0", true},
		{api.Number, "1099511627776", true},
		{api.Number, "1099511627777", false},
		{api.Number, "1099511627775", true},
		{api.Number, "2000000000000", false},
		{api.Number, "999999999999", true},
		{api.Number, "9999999999999", false},
		{api.Number, "9223372036854775808", false},
		{api.Number, "18446744073709551615", false},
		{api.Number, "18446744073709551616", false}, // 0 modulo 2^64
		{api.Number, "18446744073709551617", false}, // 1 modulo 2^64
		{api.Number, strings.Repeat("9", 400), false},
		{api.Number, strings.Repeat("0", 400), true},
		{api.Number, strings.Repeat("0", 400) + "1099511627776", true},
		{api.Number, strings.Repeat("0", 400) + "1099511627777", false},
		{api.String, `""`, true},
		{api.String, `"` + strings.Repeat("x", 64) + `"`, true},
		{api.String, `"` + strings.Repeat("x", 65) + `"`, false},
		{api.String, `"` + strings.Repeat("\U0001F600", 16) + `"`, true}, // bytes count, not characters
		{api.String, `"` + strings.Repeat("\U0001F600", 16) + `x"`, false},
		{api.String, `"` + strings.Repeat("\u20ac", 22) + `"`, false},
		{api.String, "\"\xff\"", false},
		{api.String, "\"\xe2\x82\"", false},
		{api.String, "\"\xed\xa0\x80\"", false},
		{api.String, "\"\ufffd\"", true},
		{api.String, "\"\x00\r\t\"", true},

		{api.Keyword, "let", true},
		{api.Symbol, "<-", true},
		{api.Space, " \n", true},
		{api.Space, strings.Repeat(" ", 5000), true},
		{api.Comment, "#", true},
		{api.Comment, "#" + strings.Repeat("x", 5000), true},
		{api.Comment, "#\xff", true},

		{api.Bad, "!", false},
		{api.Bad, `"x`, false},
		{api.Bad, "\u20ac", false},
		{api.Bad, "a", false},
		{api.Bad, "", false},

		{api.Lower, "", false},
		{api.Lower, "let", false},
		{api.Lower, "A", false},
		{api.Lower, "a b", false},
		{api.Lower, "aB", false},
		{api.Lower, "a ", false},
		{api.Upper, "a", false},
		{api.Upper, "A_", false},
		{api.Upper, "", false},
		{api.Keyword, "lets", false},
		{api.Keyword, "", false},
		{api.Keyword, "let in", false},
		{api.Number, "", false},
		{api.Number, "+1", false},
		{api.Number, "-1", false},
		{api.Number, "1_0", false},
		{api.Number, "0x1", false},
		{api.Number, "1 ", false},
		{api.Number, "\u0663", false},
		{api.String, "", false},
		{api.String, `"`, false},
		{api.String, `"x`, false},
		{api.String, `x`, false},
		{api.String, `"x" `, false},
		{api.String, `"x""y"`, false},
		{api.String, "\"a\nb\"", false},
		{api.Symbol, "===", false},
		{api.Symbol, "!", false},
		{api.Symbol, "", false},
		{api.Space, "", false},
		{api.Space, "\x0b", false},
		{api.Comment, "", false},
		{api.Comment, "#a\n", false},
		{api.Comment, "x", false},

		{-1, "a", false},
		{api.Bad + 1, "!", false},
		{api.NModule, "a", false},
		{-1, "", false},
	} {
		for _, at := range []int{0, 7, -1} { // At does not matter
			if got := Fits(api.Token{Kind: c.kind, Text: c.text, At: at}); got != c.want {
				t.Errorf("Fits of %+q as the kind %d at %d = %t, want %t", c.text, c.kind, at, got, c.want)
			}
		}
	}
}

func TestQuote(t *testing.T) { // P6.4
	long := strings.Repeat("x", 64)
	for _, c := range []struct {
		text, want string
		err        api.Errno
	}{
		{"", `""`, api.OK},
		{"a", `"a"`, api.OK},
		{`\n`, `"\n"`, api.OK},
		{"#let", `"#let"`, api.OK},
		{"\t\r\x00", "\"\t\r\x00\"", api.OK},
		{"\u20ac\U0001F600\ufffd", "\"\u20ac\U0001F600\ufffd\"", api.OK},
		{long, `"` + long + `"`, api.OK},
		{strings.Repeat("\U0001F600", 16), `"` + strings.Repeat("\U0001F600", 16) + `"`, api.OK},

		{"\n", "", api.ErrArg},
		{"a\nb", "", api.ErrArg},
		{`"`, "", api.ErrArg},
		{`a"b`, "", api.ErrArg},
		{`""`, "", api.ErrArg},
		{"\xff", "", api.ErrArg},
		{"a\x80", "", api.ErrArg},
		{"\xe2\x82", "", api.ErrArg},
		{"\xc0\x80", "", api.ErrArg},
		{"\xed\xa0\x80", "", api.ErrArg},
		{"\xf4\x90\x80\x80", "", api.ErrArg},

		{long + "x", "", api.ErrLimit},
		{strings.Repeat("\u20ac", 22), "", api.ErrLimit},
		{strings.Repeat("x", 5000), "", api.ErrLimit},

		{long + "x\n", "", api.ErrArg}, // before the limit
		{long + "x\"", "", api.ErrArg},
		{long + "x\xff", "", api.ErrArg},
	} {
		if got, err := Quote(c.text); got != c.want || err != c.err {
			t.Errorf("Quote(%+q) = %+q and the error %d, want %+q and %d", c.text, got, err, c.want, c.err)
		}
		if c.err == api.OK {
			checkTokens(t, c.want, []expected{{c.want, api.String}})
		}
	}
}

func TestUnquote(t *testing.T) { // P6.4
	long := strings.Repeat("x", 64)
	for _, c := range []struct {
		text, want string
		err        api.Errno
	}{
		{`""`, "", api.OK},
		{`"a"`, "a", api.OK},
		{`" a "`, " a ", api.OK},
		{`"\"`, `\`, api.OK},
		{"\"\t\r\x00\"", "\t\r\x00", api.OK},
		{"\"\u20ac\U0001F600\"", "\u20ac\U0001F600", api.OK},
		{`"` + long + `"`, long, api.OK},

		{"", "", api.ErrForm},
		{`"`, "", api.ErrForm},
		{`"a`, "", api.ErrForm},
		{`a"`, "", api.ErrForm},
		{"a", "", api.ErrForm},
		{"let", "", api.ErrForm},
		{"'a'", "", api.ErrForm},
		{`"""`, "", api.ErrForm},
		{`""""`, "", api.ErrForm},
		{`"a"b"`, "", api.ErrForm},
		{`"a" `, "", api.ErrForm},
		{` "a"`, "", api.ErrForm},
		{`"a"#"`, "", api.ErrForm},
		{`#"a"`, "", api.ErrForm},
		{"\"a\nb\"", "", api.ErrForm},
		{"\"\n\"", "", api.ErrForm},
		{"\xff", "", api.ErrForm},
		{`"` + long + `x`, "", api.ErrForm},

		{"\"\xff\"", "", api.ErrArg},
		{"\"a\x80\"", "", api.ErrArg},
		{"\"\xe2\x82\"", "", api.ErrArg},
		{"\"\xed\xa0\x80\"", "", api.ErrArg},

		{`"` + long + `x"`, "", api.ErrLimit},
		{`"` + strings.Repeat("\u20ac", 22) + `"`, "", api.ErrLimit},

		{`"` + long + "\xff\"", "", api.ErrArg}, // before the limit
		{"\"\xff\" ", "", api.ErrForm},          // before the contents
		{`"` + long + `x" `, "", api.ErrForm},
	} {
		if got, err := Unquote(c.text); got != c.want || err != c.err {
			t.Errorf("Unquote(%+q) = %+q and the error %d, want %+q and %d", c.text, got, err, c.want, c.err)
		}
	}
}

func TestJoin(t *testing.T) { // P6.5
	for _, c := range []struct {
		list []string
		want string
	}{
		{nil, ""},
		{[]string{}, ""},
		{[]string{"a"}, "a"},
		{[]string{"a", "b"}, "a b"},
		{[]string{"a", "let"}, "a let"},
		{[]string{"let", "a"}, "let a"},
		{[]string{"a", "B"}, "aB"},
		{[]string{"A", "b"}, "A b"},
		{[]string{"A", "1"}, "A 1"},
		{[]string{"a", "1"}, "a 1"},
		{[]string{"1", "a"}, "1a"},
		{[]string{"1", "2"}, "1 2"},
		{[]string{"a", "_"}, "a _"},
		{[]string{"A", "_"}, "A_"},
		{[]string{"let", "_"}, "let _"},
		{[]string{"_", "a"}, "_a"},
		{[]string{"f", "(", "x", ",", "y", ")"}, "f(x,y)"},
		{[]string{"a", ".", "b", "==", "-", "1"}, "a.b==-1"},

		{[]string{"=", "="}, "= ="},
		{[]string{"=", "=="}, "= =="},
		{[]string{"==", "="}, "==="},
		{[]string{"<", "="}, "< ="},
		{[]string{"<", "-"}, "< -"},
		{[]string{"<", "->"}, "< ->"},
		{[]string{"<", "<="}, "<<="},
		{[]string{"-", ">"}, "- >"},
		{[]string{"-", "->"}, "-->"},
		{[]string{"+", "+"}, "+ +"},
		{[]string{"+", "++"}, "+ ++"},
		{[]string{"++", "+"}, "+++"},
		{[]string{">", "="}, ">="},
		{[]string{"!", "="}, "! ="},
		{[]string{"!", "=="}, "! =="},
		{[]string{"!", "!="}, "!!="},
		{[]string{"&!", "="}, "&! ="},
		{[]string{"&", "!="}, "&!="},
		{[]string{"&", "!"}, "& !"},
		{[]string{"!", "!"}, "! !"},
		{[]string{"\xc3", "\xa9"}, "\xc3 \xa9"},
		{[]string{"a", "\u20ac", "b"}, "a\u20acb"},

		{[]string{`"a"`, `"b"`}, `"a""b"`},
		{[]string{`""`, `"`}, `"""`},
		{[]string{`a`, `"b"`, `c`}, `a"b"c`},
		{[]string{"&", `"x"`}, `&"x"`},
		{[]string{"&", `"x`}, `&"x`},
		{[]string{"\"\xff\"", "a"}, "\"\xff\"a"},

		{[]string{"#c"}, "#c"},
		{[]string{"#c", "a"}, "#c\na"},
		{[]string{"#c", "#d"}, "#c\n#d"},
		{[]string{"a", "#c"}, "a#c"},
		{[]string{"=", "#c"}, "=#c"},
		{[]string{"#", "#"}, "#\n#"},
		{[]string{`"x`}, `"x`},
		{[]string{`"x`, "a"}, "\"x\na"},
		{[]string{`"`, `"`}, "\"\n\""},
		{[]string{`"`, `"x"`, `"`, "#"}, "\"\n\"x\"\"\n#"},
		{[]string{`"x`, "\"y\"", "\"z", "#"}, "\"x\n\"y\"\"z\n#"},

		{[]string{""}, ""},
		{[]string{" "}, ""},
		{[]string{"\n"}, ""},
		{[]string{"a", ""}, ""},
		{[]string{"", "a"}, ""},
		{[]string{"a", " "}, ""},
		{[]string{"a", "\n", "b"}, ""},
		{[]string{"a", "b c"}, ""},
		{[]string{"a b", "c"}, ""},
		{[]string{"a "}, ""},
		{[]string{" a"}, ""},
		{[]string{"=", "==="}, ""},
		{[]string{"#c\n", "a"}, ""},
		{[]string{"\"a\nb\"", "a"}, ""},
		{[]string{`"a"b`, "a"}, ""},
		{[]string{"&=", "a"}, ""},
		{[]string{`&"`, "a"}, ""},
		{[]string{"1a", "a"}, ""},
		{[]string{"a", "a", "a", "aB"}, ""},
	} {
		if got := Join(c.list); got != c.want {
			t.Errorf("Join(%+q) = %+q, want %+q", c.list, got, c.want)
		}
	}
}

func TestJoinKeepsItsArgument(t *testing.T) { // R4
	all := []string{"a", "b", "#c", "d", "spare", "spare"}
	l := all[:4]
	if got := Join(l); got != "a b#c\nd" {
		t.Errorf("Join = %+q", got)
	}
	if want := []string{"a", "b", "#c", "d", "spare", "spare"}; !slices.Equal(all, want) {
		t.Errorf("after Join its argument is %q, want %q", all, want)
	}
}

func TestLongTexts(t *testing.T) { // P6.1, R1: in a time that grows as the text does
	const times = 1 << 18
	for _, c := range []struct {
		piece  string
		tokens int
	}{
		{"a", 1},
		{"&", 1},
		{"#", 1},
		{" ", 1},
		{"(", times},
		{"!#\n", 3 * times},
		{`"x"`, times},
		{"\"x\n", 2 * times},
		{"&\"x\"", 2 * times},
		{"&a", 2 * times},
		{"\u20ac\n", 2 * times},
	} {
		s := strings.Repeat(c.piece, times)
		l := Tokens(s)
		if len(l) != c.tokens {
			t.Errorf("Tokens of %d times %+q are %d, want %d", times, c.piece, len(l), c.tokens)
		}
		if last := l[len(l)-1]; last.At+len(last.Text) != len(s) {
			t.Errorf("the last token of %d times %+q ends at %d", times, c.piece, last.At+len(last.Text))
		}
	}
}

func TestJoinOfLongLists(t *testing.T) { // P6.5
	const times = 1 << 16
	if got := Join(slices.Repeat([]string{"a"}, times)); got != strings.Repeat("a ", times-1)+"a" {
		t.Errorf("Join of %d names has %d bytes", times, len(got))
	}
	if got := Join(slices.Repeat([]string{"("}, times)); got != strings.Repeat("(", times) {
		t.Errorf("Join of %d brackets has %d bytes", times, len(got))
	}
}
