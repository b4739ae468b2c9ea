package lexer

import (
	"math/rand/v2"
	"regexp"
	"slices"
	"strings"
	"testing"
	"unicode/utf8"

	"schemalens/api"
	"schemalens/position"
)

// words are the keywords as the chapter lists them.
var words = strings.Fields("type table key ref to check fun proc let in if then else match insert delete as where update set with and or not true false")

// signs are the symbols as the chapter lists them.
var signs = strings.Fields("== != <= <- -> ++ < > = + - * ( ) { } [ ] , . : | ; ?")

// A rule is a row of the chapter's table of tokens, but for the Bads.
type rule struct {
	kind    int
	pattern *regexp.Regexp
}

var rules = []rule{
	{api.Space, regexp.MustCompile(`^[\t\n\r ]+`)},
	{api.Comment, regexp.MustCompile(`^#[^\n]*`)},
	{api.Lower, regexp.MustCompile(`^[a-z][a-z0-9_]*`)},
	{api.Upper, regexp.MustCompile(`^[A-Z][A-Za-z0-9]*`)},
	{api.Number, regexp.MustCompile(`^[0-9]+`)},
	{api.String, regexp.MustCompile(`^"[^"\n]*"`)},
}

// modelFirst returns the kind and the text of the first token of a text.
func modelFirst(s string) (int, string) {
	for _, r := range rules {
		found := r.pattern.FindString(s)
		if r.kind == api.Lower && slices.Contains(words, found) {
			return api.Keyword, found
		}
		if found != "" {
			return r.kind, found
		}
	}
	longest := ""
	for _, sign := range signs {
		if strings.HasPrefix(s, sign) && len(sign) > len(longest) {
			longest = sign
		}
	}
	if longest != "" {
		return api.Symbol, longest
	}
	return api.Bad, modelBad(s)
}

// modelBad returns the Bad with which a text begins. Only the sign with ! is not told
// by its first byte.
func modelBad(s string) string {
	if s[0] == '"' {
		return strings.SplitN(s, "\n", 2)[0]
	}
	n := 1
	for n < len(s) && !strings.HasPrefix(s[n:], "!=") &&
		!strings.ContainsRune("\t\n\r #\"0123456789abcdefghijklmnopqrstuvwxyzABCDEFGHIJKLMNOPQRSTUVWXYZ=<>-+*(){}[],.:|;?", rune(s[n])) {
		n++
	}
	return s[:n]
}

func modelTokens(s string) []api.Token {
	var l []api.Token
	for at := 0; at < len(s); {
		kind, text := modelFirst(s[at:])
		l = append(l, api.Token{Kind: kind, Text: text, At: at})
		at += len(text)
	}
	return l
}

// modelIs reports whether a text is a token of the kind.
func modelIs(s string, kind int) bool {
	l := modelTokens(s)
	return len(l) == 1 && l[0].Kind == kind
}

// modelJoin follows the definition of the joined text; ok is false if an element is
// no token or a Space.
func modelJoin(l []string) (text string, ok bool) {
	var b strings.Builder
	for i, s := range l {
		found := modelTokens(s)
		if len(found) != 1 || found[0].Kind == api.Space {
			return "", false
		}
		b.WriteString(s)
		if i == len(l)-1 {
			break
		}
		_, front := modelFirst(s + l[i+1])
		switch {
		case found[0].Kind == api.Comment, found[0].Kind == api.Bad && strings.HasPrefix(s, `"`):
			b.WriteString("\n")
		case front != s:
			b.WriteString(" ")
		}
	}
	return b.String(), true
}

// pieces are what the texts of forTexts consist of: tokens of all kinds, parts of
// them, and bytes that belong to none.
func pieces() []string {
	return []string{
		"a", "z", "le", "let", "x_1", "_", "A", "Z", "Bc2", "0", "9", "12", `"`, `"x"`, "#", "# c",
		"\n", "\t", "\r", " ", "!", "=", "<", "-", ">", "+", "*", "(", "]", ".", "|", "?", "==",
		"&", "'", "\\", "\x00", "\x0b", "\x7f", "\x80", "\xff", "\xc3", "\u00e9", "\u20ac", "\U0001F600",
	}
}

// forTexts calls check with all texts of at most three pieces, all texts of at most
// two bytes, and longer ones that look random and are the same in each run.
func forTexts(check func(s string)) {
	all := pieces()
	check("")
	for _, a := range all {
		check(a)
		for _, b := range all {
			check(a + b)
			for _, c := range all {
				check(a + b + c)
			}
		}
	}
	for a := range 256 {
		check(string([]byte{byte(a)}))
		for b := range 256 {
			check(string([]byte{byte(a), byte(b)}))
		}
	}
	w := rand.New(rand.NewPCG(6, 1))
	for range 2000 {
		check(randomText(w, 60))
	}
}

func randomText(w *rand.Rand, most int) string {
	var b strings.Builder
	for range w.IntN(most + 1) {
		switch w.IntN(6) {
		case 0:
			b.WriteByte(byte(w.IntN(256)))
		case 1:
			b.WriteString(words[w.IntN(len(words))])
		case 2:
			b.WriteString(signs[w.IntN(len(signs))])
		default:
			b.WriteString(pieces()[w.IntN(len(pieces()))])
		}
	}
	return b.String()
}

// A mark is what is left of a token without its place.
type mark struct {
	kind int
	text string
}

// marks returns the tokens that are not Space.
func marks(l []api.Token) []mark {
	var m []mark
	for _, t := range l {
		if t.Kind != api.Space {
			m = append(m, mark{t.Kind, t.Text})
		}
	}
	return m
}

func TestTokensOfManyTexts(t *testing.T) { // P6.1
	forTexts(func(s string) {
		if got, want := Tokens(s), modelTokens(s); !slices.Equal(got, want) {
			t.Errorf("Tokens(%+q) = %#v, want %#v", s, got, want)
		}
	})
}

func TestTokensAreLossless(t *testing.T) { // P6.6
	forTexts(func(s string) {
		var b strings.Builder
		for _, x := range Tokens(s) {
			if x.Text == "" || x.At != b.Len() {
				t.Errorf("Tokens(%+q) has %+q at %d, want it at %d", s, x.Text, x.At, b.Len())
			}
			b.WriteString(x.Text)
			alone := []api.Token{{Kind: x.Kind, Text: x.Text}}
			if got := Tokens(x.Text); !slices.Equal(got, alone) {
				t.Errorf("Tokens(%+q) = %#v, in %+q it is %#v", x.Text, got, s, alone)
			}
		}
		if b.String() != s {
			t.Errorf("the tokens of %+q make up %+q", s, b.String())
		}
	})
}

func TestTokensAreLocal(t *testing.T) { // P6.8
	forTexts(func(s string) {
		whole := Tokens(s)
		for n := range len(s) {
			l := Tokens(s[:n])
			kept := l[:max(len(l)-1, 0)]
			if len(whole) < len(kept) || !slices.Equal(whole[:len(kept)], kept) {
				t.Errorf("Tokens(%+q) = %#v, but %+q has %#v", s[:n], l, s, whole)
			}
		}
	})
}

func TestTokensOfLines(t *testing.T) { // P6.9
	forTexts(func(s string) {
		for _, x := range Tokens(s) {
			if x.Kind != api.Space && strings.Contains(x.Text, "\n") {
				t.Errorf("Tokens(%+q) has a byte 10 in %+q", s, x.Text)
			}
		}
		for n := range len(s) + 1 {
			both := append(marks(Tokens(s[:n])), marks(Tokens(s[n:]))...)
			joined := s[:n] + "\n" + s[n:]
			if got := marks(Tokens(joined)); !slices.Equal(got, both) {
				t.Errorf("Tokens(%+q) has %#v, want %#v", joined, got, both)
			}
		}
	})
}

func TestTokensOfValidTexts(t *testing.T) { // P6.10
	forTexts(func(s string) {
		if !utf8.ValidString(s) {
			return
		}
		l := Tokens(s)
		for _, x := range l {
			if _, err := position.At(s, x.At); err != api.OK {
				t.Errorf("Tokens(%+q) has %+q at %d, inside a character", s, x.Text, x.At)
			}
			if got := marks(Tokens(s[:x.At] + "\n" + s[x.At:])); !slices.Equal(got, marks(l)) {
				t.Errorf("with a byte 10 at %d, Tokens(%+q) has %#v, want %#v", x.At, s, got, marks(l))
			}
		}
	})
}

// withinLimits follows the definition for a token; a Number is compared digit by digit.
func withinLimits(x api.Token) bool {
	switch x.Kind {
	case api.Bad:
		return false
	case api.Lower, api.Upper:
		return len(x.Text) < 17
	case api.Number:
		const most = "1099511627776"
		digits := strings.TrimLeft(x.Text, "0")
		return len(digits) < len(most) || len(digits) == len(most) && digits <= most
	case api.String:
		return len(x.Text) < 67 && utf8.ValidString(x.Text)
	}
	return true
}

func TestFitsOfManyTexts(t *testing.T) { // P6.3
	forTexts(func(s string) {
		l := modelTokens(s)
		for kind := -1; kind <= api.Bad+1; kind++ {
			x := api.Token{Kind: kind, Text: s, At: len(s) - 3}
			want := len(l) == 1 && l[0].Kind == kind && withinLimits(l[0])
			if got := Fits(x); got != want {
				t.Errorf("Fits(%#v) = %t, want %t", x, got, want)
			}
		}
	})
}

func TestLiteralsOfManyTexts(t *testing.T) { // P6.4
	forTexts(func(s string) {
		want, wantErr := `"`+s+`"`, api.OK
		switch {
		case strings.Contains(s, "\n"), strings.Contains(s, `"`), !utf8.ValidString(s):
			want, wantErr = "", api.ErrArg
		case len(s) >= 65:
			want, wantErr = "", api.ErrLimit
		}
		if got, err := Quote(s); got != want || err != wantErr {
			t.Errorf("Quote(%+q) = %+q and the error %d, want %+q and %d", s, got, err, want, wantErr)
		}
		checkUnquote(t, s)
		checkUnquote(t, `"`+s+`"`)
	})
}

// checkUnquote compares Unquote with the definition.
func checkUnquote(t *testing.T, s string) {
	t.Helper()
	want, wantErr := "", api.OK
	switch {
	case !modelIs(s, api.String):
		wantErr = api.ErrForm
	case !utf8.ValidString(s):
		wantErr = api.ErrArg
	case len(s) >= 67:
		wantErr = api.ErrLimit
	default:
		want = strings.Trim(s, `"`)
	}
	if got, err := Unquote(s); got != want || err != wantErr {
		t.Errorf("Unquote(%+q) = %+q and the error %d, want %+q and %d", s, got, err, want, wantErr)
	}
}

// elements are tokens of all kinds but Space.
func elements() []string {
	return append(slices.Clone(signs),
		"a", "x_1", "x9", "let", "in", "int", "A", "Bc2", "0", "12", `""`, `"x"`, `"# "`, "#", "# c", "#\"", "#\r",
		`"`, `"x`, `"# y`, "!", "!!", "!&", "&", "&!", "_", "__", "'", "\\", "\x00", "\x80", "\xff!", "\xc3", "\xa9", "\u00e9", "\U0001F600",
		"\"\xff\"", "\"\xff",
	)
}

// forLists calls check with all lists of at most three tokens, and with longer ones
// that look random and are the same in each run.
func forLists(check func(l []string)) {
	all := elements()
	check(nil)
	for _, a := range all {
		check([]string{a})
		for _, b := range all {
			check([]string{a, b})
			for _, c := range all {
				check([]string{a, b, c})
			}
		}
	}
	w := rand.New(rand.NewPCG(6, 2))
	for range 2000 {
		var l []string
		for range w.IntN(40) {
			l = append(l, all[w.IntN(len(all))])
		}
		check(l)
	}
}

func TestJoinOfManyLists(t *testing.T) { // P6.5
	forLists(func(l []string) {
		want, ok := modelJoin(l)
		if got := Join(l); got != want || !ok {
			t.Errorf("Join(%+q) = %+q, want %+q", l, got, want)
		}
	})
}

func TestTokensOfJoin(t *testing.T) { // P6.7
	forLists(func(l []string) {
		var got []string
		for _, m := range marks(Tokens(Join(l))) {
			got = append(got, m.text)
		}
		if !slices.Equal(got, l) {
			t.Errorf("the tokens of %+q are %+q, want %+q", Join(l), got, l)
		}
	})
}

func TestJoinOfTokens(t *testing.T) { // P6.5, P6.7
	forTexts(func(s string) {
		before := marks(Tokens(s))
		var l []string
		for _, m := range before {
			l = append(l, m.text)
		}
		if got := marks(Tokens(Join(l))); !slices.Equal(got, before) {
			t.Errorf("the tokens of %+q, joined, are %#v, want %#v", s, got, before)
		}
	})
}

func TestJoinOfManyTexts(t *testing.T) { // P6.5
	forTexts(func(s string) {
		for _, l := range [][]string{{s}, {"a", s}, {s, "a"}} {
			want, _ := modelJoin(l)
			if got := Join(l); got != want {
				t.Errorf("Join(%+q) = %+q, want %+q", l, got, want)
			}
		}
	})
}
