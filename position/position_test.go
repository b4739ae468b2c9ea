package position

import (
	"cmp"
	"math"
	"slices"
	"strings"
	"testing"

	"schemalens/api"
	"schemalens/wire"
)

// example is the text of the chapter's examples.
const example = "a\U0001F600\n\u20acb"

// A char is a character of the model: its bytes and its units.
type char struct {
	bytes string
	units int
}

// chars splits a text by the table of well-formed UTF-8 of the Unicode standard;
// it uses nothing of Go's own decoding of strings.
func chars(s string) []char {
	var l []char
	for len(s) > 0 {
		n := formed(s)
		c := char{s[:max(n, 1)], 1}
		if n == 4 {
			c.units = 2
		}
		l = append(l, c)
		s = s[len(c.bytes):]
	}
	return l
}

// formed returns the number of bytes of the encoding that s begins with, or 0.
func formed(s string) int {
	tail := func(n int, low, high byte) int {
		if len(s) < n || s[1] < low || s[1] > high {
			return 0
		}
		for i := 2; i < n; i++ {
			if s[i] < 0x80 || s[i] > 0xbf {
				return 0
			}
		}
		return n
	}
	switch c := s[0]; {
	case c < 0x80:
		return 1
	case c >= 0xc2 && c <= 0xdf:
		return tail(2, 0x80, 0xbf)
	case c == 0xe0:
		return tail(3, 0xa0, 0xbf)
	case c == 0xed:
		return tail(3, 0x80, 0x9f)
	case c >= 0xe1 && c <= 0xef:
		return tail(3, 0x80, 0xbf)
	case c == 0xf0:
		return tail(4, 0x90, 0xbf)
	case c >= 0xf1 && c <= 0xf3:
		return tail(4, 0x80, 0xbf)
	case c == 0xf4:
		return tail(4, 0x80, 0x8f)
	}
	return 0
}

// A place is an offset before which a character begins or the text ends, and its
// position.
type place struct {
	offset int
	pos    api.Pos
}

// places returns all places of a text, by the model.
func places(s string) []place {
	p := place{}
	l := []place{p}
	for _, c := range chars(s) {
		p.offset += len(c.bytes)
		p.pos.Unit += c.units
		if c.bytes == "\n" {
			p.pos = api.Pos{Line: p.pos.Line + 1}
		}
		l = append(l, p)
	}
	return l
}

// pieces are what the texts of forTexts consist of: parts of encodings, whole
// ones and bytes that no encoding has.
func pieces() []string {
	return []string{
		"a", "\n", "\r", "\x00", "\x7f",
		"\x80", "\x9f", "\xa0", "\xbf", "\xc0", "\xc2", "\xe0", "\xe2\x82", "\xed", "\xf0", "\xf0\x90", "\xf4", "\xf5", "\xff",
		"\u00e9", "\u20ac", "\ufffd", "\U0001F600",
	}
}

// forTexts calls check with all texts of at most three pieces and with some
// longer ones.
func forTexts(check func(s string)) {
	check("")
	for _, a := range pieces() {
		check(a)
		for _, b := range pieces() {
			check(a + b)
			for _, c := range pieces() {
				check(a + b + c)
			}
			check(strings.Repeat(a+b+"\n", 3) + b + a)
		}
	}
	for _, s := range strange() {
		check(s.text)
		check("a" + s.text + "\n" + s.text)
	}
	check(example)
}

type counted struct {
	text  string
	units int
}

// strange returns texts with bytes that belong to no character, and what is next
// to them.
func strange() []counted {
	return []counted{
		{"\xff", 1},
		{"\xfe\xff", 2},
		{"\x80", 1},         // nothing to continue
		{"\xbf\x80\x80", 3}, // nothing to continue
		{"a\x80", 2},
		{"\u00e9\x80", 2},               // a complete one is not continued
		{"\xc3", 1},                     // cut off
		{"\xe2\x82", 2},                 // cut off
		{"\xe2\x82b", 3},                // cut off
		{"\xe2\x82\n", 3},               // cut off
		{"\xf0\x9f\x98", 3},             // cut off
		{"\xf0\x9f\x98\u20ac", 4},       // cut off
		{"\xc0\x80", 2},                 // longer than the shortest form of U+0000
		{"\xc1\xbf", 2},                 // of U+007F
		{"\xe0\x80\x8a", 3},             // of U+000A
		{"\xe0\x9f\xbf", 3},             // of U+07FF
		{"\xf0\x80\x80\x8a", 4},         // of U+000A
		{"\xf0\x8f\xbf\xbf", 4},         // of U+FFFF
		{"\xed\xa0\x80", 3},             // the surrogate U+D800
		{"\xed\xbf\xbf", 3},             // the surrogate U+DFFF
		{"\xed\xa0\xbd\xed\xb8\x80", 6}, // two surrogates that would be a pair
		{"\xf4\x90\x80\x80", 4},         // above U+10FFFF
		{"\xf5\x80\x80\x80", 4},         // above U+10FFFF
		{"\xf8\x88\x80\x80\x80", 5},     // five bytes
		{"\xfc\x84\x80\x80\x80\x80", 6}, // six bytes
		{"\ufffd", 1},                   // U+FFFD itself
		{"\ufffd\xff\ufffd", 3},
		{"\xef\xbf", 2},                     // U+FFFD cut off
		{"\xed\x9f\xbf\xee\x80\x80", 2},     // U+D7FF and U+E000
		{"\xef\xbf\xbf\xf0\x90\x80\x80", 3}, // U+FFFF and U+10000
		{"\xf4\x8f\xbf\xbf", 2},             // U+10FFFF
	}
}

func TestUnits(t *testing.T) { // P3.1
	for _, c := range append(strange(), []counted{
		{"", 0},
		{"a", 1},
		{"abc", 3},
		{"\n", 1},
		{"a\nb\n", 4},
		{"\r\n", 2},
		{"\x00\x7f", 2},
		{"\u0080\u00e9\u07ff", 3},
		{"\u0800\u20ac\uffff", 3},
		{"\U00010000", 2},
		{"\U0001F600\U0010FFFF", 4},
		{"e\u0301", 2}, // a combining character is a character of its own
		{"\ufeffa", 2},
		{example, 6},
		{strings.Repeat("\U0001F600", 1024), 2048},
		{strings.Repeat("\u20ac", 1365), 1365},
		{strings.Repeat("x", api.MaxText), api.MaxText},
	}...) {
		if got := Units(c.text); got != c.units {
			t.Errorf("Units(%+q) = %d, want %d", c.text, got, c.units)
		}
	}
}

func TestUnitsOfManyTexts(t *testing.T) { // P3.1
	forTexts(func(s string) {
		want := 0
		for _, c := range chars(s) {
			want += c.units
		}
		if got := Units(s); got != want {
			t.Errorf("Units(%+q) = %d, want %d", s, got, want)
		}
	})
}

func TestLines(t *testing.T) { // P3.2
	for _, c := range []struct {
		text string
		want []int
	}{
		{"", []int{0}},
		{"a", []int{0}},
		{"\n", []int{0, 1}},
		{"a\n", []int{0, 2}},
		{"a\nb", []int{0, 2}},
		{"a\nb\n", []int{0, 2, 4}},
		{"\n\n\n", []int{0, 1, 2, 3}},
		{"a\n\nb", []int{0, 2, 3}},
		{"a\r\nb\rc", []int{0, 3}},
		{"a\u0085b\u2028c\x0bd\x0c", []int{0}}, // only the byte 10 ends a line
		{"\u00e9\n\u20ac\n\U0001F600\n", []int{0, 3, 7, 12}},
		{"\xff\n\xe2\x82\n\x80", []int{0, 2, 5}},
		{"\xe0\x80\x8a", []int{0}},
		{"\u010a\u0a0a", []int{0}},
		{example, []int{0, 6}},
	} {
		if got := Lines(c.text); !slices.Equal(got, c.want) {
			t.Errorf("Lines(%+q) = %v, want %v", c.text, got, c.want)
		}
	}
}

func TestLinesOfManyTexts(t *testing.T) { // P3.2
	forTexts(func(s string) {
		want := []int{0}
		for i := range len(s) {
			if s[i] == 10 {
				want = append(want, i+1)
			}
		}
		if got := Lines(s); !slices.Equal(got, want) {
			t.Errorf("Lines(%+q) = %v, want %v", s, got, want)
		}
	})
}

func TestLinesReturnsNewMemory(t *testing.T) { // R4
	first := Lines("a\nb\n")
	first[0], first[1] = 7, 8
	if got := Lines("a\nb\n"); !slices.Equal(got, []int{0, 2, 4}) {
		t.Errorf("after a change of a result Lines returns %v", got)
	}
}

func TestOffset(t *testing.T) { // P3.3
	for _, c := range []struct {
		text       string
		line, unit int
		want       int
		err        api.Errno
	}{
		{"", 0, 0, 0, api.OK},
		{"ab", 0, 0, 0, api.OK},
		{"ab", 0, 1, 1, api.OK},
		{"ab", 0, 2, 2, api.OK},
		{"ab\n", 0, 2, 2, api.OK},
		{"ab\n", 1, 0, 3, api.OK},
		{"\n", 0, 0, 0, api.OK},
		{"\n", 1, 0, 1, api.OK},
		{"a\n\nb", 1, 0, 2, api.OK},
		{"a\n\nb", 2, 1, 4, api.OK},
		{"a\r\nb", 0, 2, 2, api.OK},
		{"x\u00e9\u20ac\U0001F600y", 0, 1, 1, api.OK},
		{"x\u00e9\u20ac\U0001F600y", 0, 2, 3, api.OK},
		{"x\u00e9\u20ac\U0001F600y", 0, 3, 6, api.OK},
		{"x\u00e9\u20ac\U0001F600y", 0, 5, 10, api.OK},
		{"x\u00e9\u20ac\U0001F600y", 0, 6, 11, api.OK},
		{"\n\U0001F600\U0001F600", 1, 2, 5, api.OK},
		{"\n\U0001F600\U0001F600", 1, 4, 9, api.OK},
		{"\xff\xe2\x82\ufffdz", 0, 3, 3, api.OK},
		{"\xff\xe2\x82\ufffdz", 0, 4, 6, api.OK},
		{"\xed\xa0\x80\xed\xb8\x80", 0, 5, 5, api.OK},
		{"\xc0\x80\n\x80", 1, 1, 4, api.OK},

		{"", 0, 1, 0, api.ErrRange},
		{"", 1, 0, 0, api.ErrRange},
		{"ab", -1, 0, 0, api.ErrRange},
		{"ab", 1, 0, 0, api.ErrRange},
		{"ab", 0, -1, 0, api.ErrRange},
		{"ab", 0, 3, 0, api.ErrRange},
		{"ab\n", 0, 3, 0, api.ErrRange}, // the byte 10 is not a position
		{"ab\n", 2, 0, 0, api.ErrRange},
		{"ab\ncd", 0, 4, 0, api.ErrRange},
		{"ab\ncd", 1, 3, 0, api.ErrRange},
		{"ab\ncd", 1, -1, 0, api.ErrRange},
		{"a\n\nb", 1, 1, 0, api.ErrRange},
		{"\u20ac", 0, 2, 0, api.ErrRange},
		{"\U0001F600", 0, 3, 0, api.ErrRange},
		{"\U0001F600", 0, -1, 0, api.ErrRange},
		{"\U0001F600", -1, 1, 0, api.ErrRange},
		{"\U0001F600", 1, 1, 0, api.ErrRange},
		{"\xe2\x82", 0, 3, 0, api.ErrRange},
		{"ab", math.MinInt, 0, 0, api.ErrRange},
		{"ab", math.MaxInt, 0, 0, api.ErrRange},
		{"ab", 0, math.MinInt, 0, api.ErrRange},
		{"ab", 0, math.MaxInt, 0, api.ErrRange},

		{"\U0001F600", 0, 1, 0, api.ErrArg},
		{"a\U0001F600b", 0, 2, 0, api.ErrArg},
		{"\U0001F600\U0010FFFF\n", 0, 3, 0, api.ErrArg},
		{"a\n\U00010000", 1, 1, 0, api.ErrArg},
		{"\x80\U0001F600", 0, 2, 0, api.ErrArg},
	} {
		p := api.Pos{Line: c.line, Unit: c.unit}
		if got, err := Offset(c.text, p); got != c.want || err != c.err {
			t.Errorf("Offset(%+q, %v) = %d and the error %d, want %d and %d", c.text, p, got, err, c.want, c.err)
		}
	}
}

// wantOffset says what the model has for Offset.
func wantOffset(l []place, p api.Pos) (int, api.Errno) {
	last := -1 // the greatest number of units of the line
	for _, q := range l {
		if q.pos == p {
			return q.offset, api.OK
		}
		if q.pos.Line == p.Line {
			last = q.pos.Unit
		}
	}
	if p.Unit < 0 || p.Unit > last {
		return 0, api.ErrRange
	}
	return 0, api.ErrArg
}

func TestOffsetOfManyTexts(t *testing.T) { // P3.3
	forTexts(func(s string) {
		l := places(s)
		for line := -1; line <= l[len(l)-1].pos.Line+1; line++ {
			for unit := -1; unit <= len(s)+1; unit++ {
				p := api.Pos{Line: line, Unit: unit}
				want, wantErr := wantOffset(l, p)
				if got, err := Offset(s, p); got != want || err != wantErr {
					t.Errorf("Offset(%+q, %v) = %d and the error %d, want %d and %d", s, p, got, err, want, wantErr)
				}
			}
		}
	})
}

func TestAt(t *testing.T) { // P3.4
	for _, c := range []struct {
		text   string
		offset int
		line   int
		unit   int
		err    api.Errno
	}{
		{"", 0, 0, 0, api.OK},
		{"ab", 0, 0, 0, api.OK},
		{"ab", 1, 0, 1, api.OK},
		{"ab", 2, 0, 2, api.OK},
		{"ab\n", 2, 0, 2, api.OK},
		{"ab\n", 3, 1, 0, api.OK},
		{"\n\n", 0, 0, 0, api.OK},
		{"\n\n", 1, 1, 0, api.OK},
		{"\n\n", 2, 2, 0, api.OK},
		{"a\n\nb", 4, 2, 1, api.OK},
		{"a\r\nb", 2, 0, 2, api.OK},
		{"x\u00e9\u20ac\U0001F600y", 3, 0, 2, api.OK},
		{"x\u00e9\u20ac\U0001F600y", 6, 0, 3, api.OK},
		{"x\u00e9\u20ac\U0001F600y", 10, 0, 5, api.OK},
		{"x\u00e9\u20ac\U0001F600y", 11, 0, 6, api.OK},
		{"\U0001F600\n\U0001F600", 9, 1, 2, api.OK},
		{"\x80\x80", 1, 0, 1, api.OK},
		{"\xe2\x82", 1, 0, 1, api.OK},
		{"\xe2\x82\nb", 2, 0, 2, api.OK},
		{"\xc0\x80", 1, 0, 1, api.OK},
		{"\xed\xa0\x80", 2, 0, 2, api.OK},
		{"\xf0\x9f\x98", 3, 0, 3, api.OK},
		{"\ufffd\xff", 3, 0, 1, api.OK},
		{"\ufffd\xff", 4, 0, 2, api.OK},

		{"", -1, 0, 0, api.ErrRange},
		{"", 1, 0, 0, api.ErrRange},
		{"ab", -1, 0, 0, api.ErrRange},
		{"ab", 3, 0, 0, api.ErrRange},
		{"ab\n", 4, 0, 0, api.ErrRange},
		{"\u20ac", 4, 0, 0, api.ErrRange},
		{"ab", math.MinInt, 0, 0, api.ErrRange},
		{"ab", math.MaxInt, 0, 0, api.ErrRange},

		{"\u00e9", 1, 0, 0, api.ErrArg},
		{"\u20ac", 1, 0, 0, api.ErrArg},
		{"\u20ac", 2, 0, 0, api.ErrArg},
		{"a\n\U0001F600b", 3, 0, 0, api.ErrArg},
		{"a\n\U0001F600b", 4, 0, 0, api.ErrArg},
		{"a\n\U0001F600b", 5, 0, 0, api.ErrArg},
		{"\ufffd", 1, 0, 0, api.ErrArg},
		{"\ufffd", 2, 0, 0, api.ErrArg},
		{"\x80\u00e9\x80", 2, 0, 0, api.ErrArg},
	} {
		want := api.Pos{Line: c.line, Unit: c.unit}
		if got, err := At(c.text, c.offset); got != want || err != c.err {
			t.Errorf("At(%+q, %d) = %v and the error %d, want %v and %d", c.text, c.offset, got, err, want, c.err)
		}
	}
}

func TestAtOfManyTexts(t *testing.T) { // P3.4
	forTexts(func(s string) {
		l := places(s)
		for offset := -1; offset <= len(s)+1; offset++ {
			var want api.Pos
			wantErr := api.ErrArg
			if offset < 0 || offset > len(s) {
				wantErr = api.ErrRange
			}
			for _, p := range l {
				if p.offset == offset {
					want, wantErr = p.pos, api.OK
				}
			}
			if got, err := At(s, offset); got != want || err != wantErr {
				t.Errorf("At(%+q, %d) = %v and the error %d, want %v and %d", s, offset, got, err, want, wantErr)
			}
		}
	})
}

// posEdit returns an edit of the positions of these lines and units.
func posEdit(line, unit, endLine, endUnit int, text string) api.PosEdit {
	return api.PosEdit{Start: api.Pos{Line: line, Unit: unit}, End: api.Pos{Line: endLine, Unit: endUnit}, Text: text}
}

func TestBytes(t *testing.T) { // P3.5
	for _, c := range []struct {
		what string
		text string
		l    []api.PosEdit
		want []api.Edit
	}{
		{"none", "ab", nil, nil},
		{"none of an empty text", "", []api.PosEdit{}, nil},
		{"an insertion into an empty text", "", []api.PosEdit{posEdit(0, 0, 0, 0, "x")}, []api.Edit{{From: 0, To: 0, Text: "x"}}},
		{"one that changes nothing", "ab", []api.PosEdit{posEdit(0, 1, 0, 1, "")}, []api.Edit{{From: 1, To: 1, Text: ""}}},
		{"several lines", example, []api.PosEdit{posEdit(0, 1, 1, 1, "y")}, []api.Edit{{From: 1, To: 9, Text: "y"}}},
		{"a byte 10", "a\nb", []api.PosEdit{posEdit(0, 1, 1, 0, "")}, []api.Edit{{From: 1, To: 2, Text: ""}}},
		{"all of it", example, []api.PosEdit{posEdit(0, 0, 1, 2, "\n\xff\u20ac")}, []api.Edit{{From: 0, To: 10, Text: "\n\xff\u20ac"}}},
		{"sorted", "abc", []api.PosEdit{posEdit(0, 0, 0, 1, "x"), posEdit(0, 2, 0, 3, "y")},
			[]api.Edit{{From: 0, To: 1, Text: "x"}, {From: 2, To: 3, Text: "y"}}},
		{"not sorted", "abc", []api.PosEdit{posEdit(0, 2, 0, 3, "y"), posEdit(0, 0, 0, 1, "x")},
			[]api.Edit{{From: 2, To: 3, Text: "y"}, {From: 0, To: 1, Text: "x"}}},
		{"overlapping", "abc", []api.PosEdit{posEdit(0, 0, 0, 2, "x"), posEdit(0, 1, 0, 3, "y"), posEdit(0, 0, 0, 3, "")},
			[]api.Edit{{From: 0, To: 2, Text: "x"}, {From: 1, To: 3, Text: "y"}, {From: 0, To: 3, Text: ""}}},
		{"twice the same", "abc", []api.PosEdit{posEdit(0, 1, 0, 1, "x"), posEdit(0, 1, 0, 1, "x")},
			[]api.Edit{{From: 1, To: 1, Text: "x"}, {From: 1, To: 1, Text: "x"}}},
		{"positions of the text before", "\u20ac\nb", []api.PosEdit{posEdit(0, 0, 0, 1, "\n\n"), posEdit(1, 0, 1, 1, "")},
			[]api.Edit{{From: 0, To: 3, Text: "\n\n"}, {From: 4, To: 5, Text: ""}}},
	} {
		got, err := Bytes(c.text, c.l)
		if !slices.Equal(got, c.want) || err != api.OK {
			t.Errorf("%s: %v and the error %d, want %v", c.what, got, err, c.want)
		}
	}
}

func TestBytesHasErrorsOfElements(t *testing.T) { // P3.5
	const text = "a\U0001F600b\ncd"
	good := posEdit(0, 0, 0, 1, "x")
	inside := posEdit(0, 2, 0, 2, "x")
	outside := posEdit(0, 5, 1, 0, "x")
	backwards := posEdit(1, 1, 1, 0, "x")
	for _, c := range []struct {
		what string
		l    []api.PosEdit
		want api.Errno
	}{
		{"no such line", []api.PosEdit{posEdit(2, 0, 2, 0, "")}, api.ErrRange},
		{"a negative line", []api.PosEdit{posEdit(-1, 0, 0, 0, "")}, api.ErrRange},
		{"a negative unit", []api.PosEdit{posEdit(0, -1, 0, 0, "")}, api.ErrRange},
		{"an End behind the line", []api.PosEdit{posEdit(0, 0, 0, 5, "")}, api.ErrRange},
		{"an End on no line", []api.PosEdit{posEdit(0, 0, 2, 0, "")}, api.ErrRange},
		{"a Start inside a character", []api.PosEdit{posEdit(0, 2, 0, 3, "")}, api.ErrArg},
		{"an End inside a character", []api.PosEdit{posEdit(0, 1, 0, 2, "")}, api.ErrArg},
		{"an End before its Start", []api.PosEdit{posEdit(0, 1, 0, 0, "")}, api.ErrArg},
		{"an End on a line before", []api.PosEdit{posEdit(1, 0, 0, 4, "")}, api.ErrArg},

		{"Start inside, End outside", []api.PosEdit{posEdit(0, 2, 0, 9, "")}, api.ErrArg},
		{"Start outside, End inside", []api.PosEdit{posEdit(0, 9, 0, 2, "")}, api.ErrRange},
		{"Start valid, End before the text", []api.PosEdit{posEdit(0, 1, 0, -1, "")}, api.ErrRange},
		{"Start behind the text, End before it", []api.PosEdit{posEdit(9, 0, 0, 0, "")}, api.ErrRange},

		{"a good one, then a bad one", []api.PosEdit{good, outside}, api.ErrRange},
		{"a bad one, then a good one", []api.PosEdit{outside, good}, api.ErrRange},
		{"inside, then outside", []api.PosEdit{inside, outside}, api.ErrArg},
		{"outside, then inside", []api.PosEdit{outside, inside}, api.ErrRange},
		{"backwards, then outside", []api.PosEdit{good, backwards, outside}, api.ErrArg},
		{"outside, then backwards", []api.PosEdit{good, outside, backwards}, api.ErrRange},
		{"a bad End, then a bad Start", []api.PosEdit{posEdit(0, 0, 0, 2, ""), outside}, api.ErrArg},
		{"the last of three", []api.PosEdit{good, good, backwards}, api.ErrArg},
	} {
		got, err := Bytes(text, c.l)
		if len(got) != 0 || err != c.want {
			t.Errorf("%s: %v and the error %d, want nothing and %d", c.what, got, err, c.want)
		}
	}
}

func TestBytesHasALimit(t *testing.T) { // P3.5
	edits := make([]api.PosEdit, api.MaxEdits+1)
	want := make([]api.Edit, api.MaxEdits)
	for i := range edits {
		edits[i] = posEdit(0, i%3, 0, 2, "x")
	}
	for i := range want {
		want[i] = api.Edit{From: i % 3, To: 2, Text: "x"}
	}
	if got, err := Bytes("ab", edits[:64]); !slices.Equal(got, want) || err != api.OK {
		t.Errorf("64 edits: %v and the error %d", got, err)
	}
	if got, err := Bytes("ab", edits); len(got) != 0 || err != api.ErrLimit {
		t.Errorf("65 edits: %v and the error %d", got, err)
	}
	edits[0] = posEdit(9, 9, 0, 0, "")
	if got, err := Bytes("ab", edits); len(got) != 0 || err != api.ErrLimit {
		t.Errorf("65 edits, the first of which is bad: %v and the error %d", got, err)
	}
	if got, err := Bytes("ab", edits[:64]); len(got) != 0 || err != api.ErrRange {
		t.Errorf("64 edits, the first of which is bad: %v and the error %d", got, err)
	}
}

func TestBytesIsOffsetOfManyTexts(t *testing.T) { // P3.5
	forTexts(func(s string) {
		for _, a := range places(s) {
			for _, b := range places(s) {
				got, err := Bytes(s, []api.PosEdit{{Start: a.pos, End: b.pos, Text: s}})
				if a.offset > b.offset {
					if len(got) != 0 || err != api.ErrArg {
						t.Errorf("Bytes(%+q) from %v to %v: %v and the error %d", s, a.pos, b.pos, got, err)
					}
					continue
				}
				want := []api.Edit{{From: a.offset, To: b.offset, Text: s}}
				if !slices.Equal(got, want) || err != api.OK {
					t.Errorf("Bytes(%+q) from %v to %v: %v and the error %d, want %v", s, a.pos, b.pos, got, err, want)
				}
			}
		}
	})
}

func TestBytesLeavesItsArgument(t *testing.T) { // P3.5, R4
	l := []api.PosEdit{posEdit(0, 1, 0, 2, "y"), posEdit(0, 0, 0, 1, "x"), posEdit(0, 2, 0, 1, "z"), posEdit(5, 5, 5, 5, "")}
	before := slices.Clone(l)
	first, _ := Bytes("ab", l[:2])
	Bytes("ab", l)
	if !slices.Equal(l, before) {
		t.Errorf("Bytes changed its list or the memory behind it: %v", l)
	}
	l[0], l[1] = api.PosEdit{}, api.PosEdit{}
	if want := []api.Edit{{From: 1, To: 2, Text: "y"}, {From: 0, To: 1, Text: "x"}}; !slices.Equal(first, want) {
		t.Errorf("after a change of the list the result is %v", first)
	}
	copy(l, before)
	first[0] = api.Edit{}
	if again, _ := Bytes("ab", l[:2]); again[0].Text != "y" {
		t.Errorf("after a change of a result Bytes returns %v", again)
	}
}

func TestAtAndOffsetAreInverse(t *testing.T) { // P3.6
	forTexts(func(s string) {
		begins := map[int]bool{}
		for _, p := range places(s) {
			begins[p.offset] = true
		}
		for offset := -2; offset <= len(s)+2; offset++ {
			p, err := At(s, offset)
			if (err == api.OK) != begins[offset] {
				t.Errorf("At(%+q, %d) has the error %d", s, offset, err)
			}
			if err != api.OK {
				continue
			}
			if back, err := Offset(s, p); back != offset || err != api.OK {
				t.Errorf("%+q: %d is at %v, which is at %d with the error %d", s, offset, p, back, err)
			}
		}
		for line := -1; line <= len(s)+1; line++ {
			for unit := -1; unit <= len(s)+1; unit++ {
				p := api.Pos{Line: line, Unit: unit}
				offset, err := Offset(s, p)
				if err != api.OK {
					continue
				}
				if back, err := At(s, offset); back != p || err != api.OK {
					t.Errorf("%+q: %v is at %d, which is at %v with the error %d", s, p, offset, back, err)
				}
			}
		}
	})
}

// comparePos compares positions by lines, then by units.
func comparePos(a, b api.Pos) int {
	return cmp.Or(cmp.Compare(a.Line, b.Line), cmp.Compare(a.Unit, b.Unit))
}

func TestGreaterOffsetsHaveGreaterPositions(t *testing.T) { // P3.7
	forTexts(func(s string) {
		last := api.Pos{Line: -1}
		for offset := range len(s) + 1 {
			p, err := At(s, offset)
			if err != api.OK {
				continue
			}
			if comparePos(last, p) >= 0 {
				t.Errorf("At(%+q, %d) = %v is not greater than %v", s, offset, p, last)
			}
			last = p
		}
	})
}

func TestGreaterPositionsHaveGreaterOffsets(t *testing.T) { // P3.7
	forTexts(func(s string) {
		last := -1
		for line := range len(s) + 1 {
			for unit := range len(s) + 1 {
				offset, err := Offset(s, api.Pos{Line: line, Unit: unit})
				if err != api.OK {
					continue
				}
				if offset <= last {
					t.Errorf("%+q: the offset of line %d, unit %d is %d, after %d", s, line, unit, offset, last)
				}
				last = offset
			}
		}
	})
}

// joinedFrom returns the lines of b in a text of which n bytes are before b.
func joinedFrom(n int, b string) []int {
	l := Lines(b)
	for i := range l {
		l[i] += n
	}
	return l
}

func checkJoined(t *testing.T, a, b string) {
	t.Helper()
	if got, want := Units(a+b), Units(a)+Units(b); got != want {
		t.Errorf("%+q and %+q together have %d units, want %d", a, b, got, want)
	}
	// The last line of a and the first one of b are one line, which begins in a.
	if got, want := Lines(a+b), append(Lines(a), joinedFrom(len(a), b)[1:]...); !slices.Equal(got, want) {
		t.Errorf("%+q and %+q together have the lines %v, want %v", a, b, got, want)
	}
}

func TestJoinedTexts(t *testing.T) { // P3.8
	for _, c := range [][2]string{
		{"", ""}, {"a", ""}, {"", "a\n"}, {"a\n", "b\n"}, {"a\n", "\n"}, {"\n", "\n\n"},
		{example, example}, {example + "\n", example}, {"\xff", "\x80\n"}, {"\u20ac", "\x80"}, {"\xf0", "\xf0\x9f"},
	} {
		checkJoined(t, c[0], c[1])
	}
	if got := Units("\xe2\x82") + Units("\xac"); got != 3 || Units("\xe2\x82\xac") != 1 {
		t.Errorf("a character that is formed from bytes of both has %d units", got)
	}
	forTexts(func(s string) {
		n := 0
		for _, c := range chars(s) {
			n += len(c.bytes)
			checkJoined(t, s[:n], s[n:])
		}
	})
}

// throughWire writes a text and a position and reads them again.
func throughWire(t *testing.T, s string, p api.Pos) (string, api.Pos) {
	t.Helper()
	var w wire.Writer
	w.Text(s)
	w.Int(p.Line)
	w.Int(p.Unit)
	r := wire.Read(w.Done())
	text := r.Text()
	back := api.Pos{Line: r.Int()}
	back.Unit = r.Int()
	if err := r.End(); err != api.OK {
		t.Errorf("reading %+q and %v has the error %d", s, p, err)
	}
	return text, back
}

func TestThroughWire(t *testing.T) { // P3.9
	check := func(s string, p api.Pos) {
		text, back := throughWire(t, s, p)
		want, wantErr := Offset(s, p)
		if got, err := Offset(text, back); got != want || err != wantErr {
			t.Errorf("%+q, %v: after reading the offset is %d with the error %d, want %d and %d", s, p, got, err, want, wantErr)
		}
	}
	forTexts(func(s string) {
		for _, p := range places(s) {
			check(s, p.pos)
		}
		check(s, api.Pos{Line: -1, Unit: 0})
		check(s, api.Pos{Line: 0, Unit: math.MinInt})
		check(s, api.Pos{Line: math.MaxInt, Unit: 1})
	})
	text, p := throughWire(t, example, api.Pos{Line: 1, Unit: 2})
	if got, err := Offset(text, p); got != 10 || err != api.OK {
		t.Errorf("after reading, line 1, unit 2 of the example is at %d with the error %d", got, err)
	}
}

func TestLongText(t *testing.T) {
	line := strings.Repeat("\U0001F600", 20) + "\xff\n"
	s := strings.Repeat(line, 49)
	if got := Lines(s); len(got) != 50 || got[49] != len(s) {
		t.Errorf("the long text has %d lines", len(got))
	}
	if got := Units(s); got != 49*42 {
		t.Errorf("the long text has %d units", got)
	}
	p := api.Pos{Line: 48, Unit: 40}
	offset, err := Offset(s, p)
	if offset != 48*len(line)+80 || err != api.OK {
		t.Errorf("Offset of %v is %d with the error %d", p, offset, err)
	}
	if back, err := At(s, offset); back != p || err != api.OK {
		t.Errorf("At(%d) is %v with the error %d", offset, back, err)
	}
}

func TestExamples(t *testing.T) {
	if len(example) != 10 || Units(example) != 6 {
		t.Errorf("the example has %d bytes and %d units", len(example), Units(example))
	}
	if p, err := At(example, 5); p != (api.Pos{Line: 0, Unit: 3}) || err != api.OK {
		t.Errorf("At(5) is %v with the error %d", p, err)
	}
	if p, err := At(example, 9); p != (api.Pos{Line: 1, Unit: 1}) || err != api.OK {
		t.Errorf("At(9) is %v with the error %d", p, err)
	}
	if p, err := At(example, 2); p != (api.Pos{}) || err != api.ErrArg {
		t.Errorf("At(2) is %v with the error %d", p, err)
	}
	if n, err := Offset(example, api.Pos{Line: 1, Unit: 2}); n != 10 || err != api.OK {
		t.Errorf("line 1, unit 2 is at %d with the error %d", n, err)
	}
	if n, err := Offset(example, api.Pos{Line: 0, Unit: 2}); n != 0 || err != api.ErrArg {
		t.Errorf("line 0, unit 2 is at %d with the error %d", n, err)
	}
	if n, err := Offset(example, api.Pos{Line: 0, Unit: 4}); n != 0 || err != api.ErrRange {
		t.Errorf("line 0, unit 4 is at %d with the error %d", n, err)
	}
}
