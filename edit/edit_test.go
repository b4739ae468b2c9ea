package edit

import (
	"math"
	"slices"
	"strings"
	"testing"

	"schemalens/api"
)

// spread returns n edits that replace every second byte of a text by text.
func spread(n int, text string) []api.Edit {
	var l []api.Edit
	for i := range n {
		l = append(l, ed(2*i, 2*i+1, text))
	}
	return l
}

// A badList is a list that is not valid for the text "abcd".
type badList struct {
	what string
	l    []api.Edit
	want api.Errno
}

func badLists() []badList {
	return []badList{
		{"a negative From", []api.Edit{ed(-1, 1, "x")}, api.ErrRange},
		{"a negative From and To", []api.Edit{ed(-2, -1, "x")}, api.ErrRange},
		{"To less than From", []api.Edit{ed(2, 1, "x")}, api.ErrRange},
		{"a negative To", []api.Edit{ed(0, -1, "")}, api.ErrRange},
		{"To behind the text", []api.Edit{ed(3, 5, "x")}, api.ErrRange},
		{"an insertion behind the text", []api.Edit{ed(5, 5, "x")}, api.ErrRange},
		{"far before the text", []api.Edit{ed(math.MinInt, 0, "x")}, api.ErrRange},
		{"far behind the text", []api.Edit{ed(0, math.MaxInt, "x")}, api.ErrRange},
		{"an impossible length", []api.Edit{ed(math.MaxInt, math.MinInt, "x")}, api.ErrRange},
		{"the second edit is behind the text", []api.Edit{ed(0, 1, "x"), ed(4, 5, "")}, api.ErrRange},

		{"overlapping", []api.Edit{ed(0, 2, "x"), ed(1, 3, "y")}, api.ErrArg},
		{"twice the same", []api.Edit{ed(1, 2, "x"), ed(1, 2, "x")}, api.ErrArg},
		{"not sorted", []api.Edit{ed(2, 3, "x"), ed(0, 1, "y")}, api.ErrArg},
		{"insertions that are not sorted", []api.Edit{ed(3, 3, "x"), ed(2, 2, "y")}, api.ErrArg},
		{"an insertion inside the edit before", []api.Edit{ed(0, 3, "x"), ed(2, 2, "y")}, api.ErrArg},
		{"an insertion where the edit before begins", []api.Edit{ed(1, 3, "x"), ed(1, 1, "y")}, api.ErrArg},
		{"overlapping without Texts", []api.Edit{ed(0, 2, ""), ed(1, 3, "")}, api.ErrArg},
		{"the third edit overlaps", []api.Edit{ed(0, 1, ""), ed(1, 3, ""), ed(2, 4, "")}, api.ErrArg},

		{"overlapping and behind the text", []api.Edit{ed(0, 2, "x"), ed(1, 5, "y")}, api.ErrRange},
		{"overlapping and To less than From", []api.Edit{ed(0, 3, "x"), ed(2, 1, "y")}, api.ErrRange},
		{"overlapping and negative", []api.Edit{ed(0, 3, "x"), ed(-1, 4, "y")}, api.ErrRange},
		{"first overlapping, then negative", []api.Edit{ed(0, 2, "x"), ed(1, 3, "y"), ed(-1, 3, "z")}, api.ErrArg},
		{"first behind the text, then overlapping", []api.Edit{ed(0, 5, "x"), ed(1, 3, "y")}, api.ErrRange},
		{"first To less than From, then overlapping", []api.Edit{ed(3, 2, "x"), ed(1, 3, "y")}, api.ErrRange},

		{"65 edits", make([]api.Edit, 65), api.ErrLimit},
		{"65 edits, the first of which is negative", append([]api.Edit{ed(-1, 0, "")}, make([]api.Edit, 64)...), api.ErrLimit},
		{"65 edits, the last of which overlaps", append(make([]api.Edit, 63), ed(0, 2, ""), ed(1, 3, "")), api.ErrLimit},
		{"65 edits behind the text", slices.Repeat([]api.Edit{ed(9, 9, "x")}, 65), api.ErrLimit},
		{"64 edits, the last of which is behind the text", append(make([]api.Edit, 63), ed(0, 9, "")), api.ErrRange},
		{"64 edits, the last of which overlaps", append(make([]api.Edit, 62), ed(0, 2, ""), ed(1, 3, "")), api.ErrArg},
	}
}

func TestValid(t *testing.T) { // P4.1
	for _, c := range []struct {
		what string
		text string
		l    []api.Edit
	}{
		{"nil", "abcd", nil},
		{"an empty list", "abcd", []api.Edit{}},
		{"nil for the empty text", "", nil},
		{"an insertion into the empty text", "", []api.Edit{ed(0, 0, "x")}},
		{"insertions into the empty text", "", []api.Edit{ed(0, 0, "x"), ed(0, 0, ""), ed(0, 0, "y")}},
		{"at 0", "abcd", []api.Edit{ed(0, 0, "x"), ed(0, 1, "")}},
		{"at the end", "abcd", []api.Edit{ed(3, 4, ""), ed(4, 4, "x")}},
		{"all of it", "abcd", []api.Edit{ed(0, 4, "")}},
		{"neighbors", "abcd", []api.Edit{ed(0, 1, "x"), ed(1, 2, "y"), ed(2, 2, "z"), ed(2, 4, "")}},
		{"64 edits", "abcd", make([]api.Edit, 64)},
		{"inside a character", "\u20ac", []api.Edit{ed(1, 2, "\xff")}},
	} {
		if err := Valid(c.text, c.l); err != api.OK {
			t.Errorf("%s: the error %d", c.what, err)
		}
	}
	for _, c := range badLists() {
		if err := Valid("abcd", c.l); err != c.want {
			t.Errorf("%s: the error %d, want %d", c.what, err, c.want)
		}
	}
	if err := Valid("", []api.Edit{ed(0, 1, "")}); err != api.ErrRange {
		t.Errorf("a byte of the empty text: the error %d", err)
	}
}

func TestValidOfManyLists(t *testing.T) { // P4.1
	l := make([]api.Edit, 2)
	check := func(s string, l []api.Edit) {
		if got, want := Valid(s, l), modelValid(s, l); got != want {
			t.Errorf("Valid(%q, %#v) = %d, want %d", s, l, got, want)
		}
	}
	for i := range 6 * 6 * 6 * 6 {
		l[0] = ed(i%6-1, i/6%6-1, "x")
		l[1] = ed(i/36%6-1, i/216%6-1, "")
		for _, s := range []string{"", "a", "ab", "abc"} {
			check(s, l)
			check(s, l[:1])
		}
	}
	forMany(t, func(s string, l []api.Edit) {
		if err := Valid(s, l); err != api.OK {
			t.Errorf("Valid(%q, %#v) = %d", s, l, err)
		}
	})
}

func TestApply(t *testing.T) { // P4.2
	for _, c := range []struct {
		what string
		text string
		l    []api.Edit
		want string
	}{
		{"nil", "abcd", nil, "abcd"},
		{"an empty list", "abcd", []api.Edit{}, "abcd"},
		{"nothing of the empty text", "", nil, ""},
		{"an insertion into the empty text", "", []api.Edit{ed(0, 0, "x")}, "x"},
		{"insertions into the empty text", "", []api.Edit{ed(0, 0, "x"), ed(0, 0, ""), ed(0, 0, "y")}, "xy"},
		{"at 0", "abcd", []api.Edit{ed(0, 0, "x")}, "xabcd"},
		{"at the end", "abcd", []api.Edit{ed(4, 4, "x")}, "abcdx"},
		{"the first byte", "abcd", []api.Edit{ed(0, 1, "x")}, "xbcd"},
		{"the last byte", "abcd", []api.Edit{ed(3, 4, "xy")}, "abcxy"},
		{"an empty Text", "abcd", []api.Edit{ed(1, 3, "")}, "ad"},
		{"all of it", "abcd", []api.Edit{ed(0, 4, "")}, ""},
		{"nothing for nothing", "abcd", []api.Edit{ed(2, 2, "")}, "abcd"},
		{"a Text that equals what it replaces", "abcd", []api.Edit{ed(1, 3, "bc")}, "abcd"},
		{"two insertions at one place", "abcd", []api.Edit{ed(2, 2, "x"), ed(2, 2, "y")}, "abxycd"},
		{"an insertion before a replacement", "abcd", []api.Edit{ed(1, 1, "x"), ed(1, 2, "y")}, "axycd"},
		{"an insertion behind a replacement", "abcd", []api.Edit{ed(1, 2, "x"), ed(2, 2, "y")}, "axycd"},
		{"neighbors", "abcd", []api.Edit{ed(0, 1, "x"), ed(1, 3, ""), ed(3, 4, "yz")}, "xyz"},
		{"neighbors that exchange", "abcd", []api.Edit{ed(1, 2, "c"), ed(2, 3, "b")}, "acbd"},
		{"offsets of the text before", "abcd", []api.Edit{ed(0, 0, "xxx"), ed(1, 2, ""), ed(3, 4, "y")}, "xxxacy"},
		{"any bytes", "\x00\xff\u20ac\n", []api.Edit{ed(1, 2, "\x80"), ed(3, 4, "\x00")}, "\x00\x80\xe2\x00\xac\n"},
		{"64 edits", strings.Repeat("ab", 64), spread(64, "xy"), strings.Repeat("xyb", 64)},
		{"64 insertions", "ab", slices.Repeat([]api.Edit{ed(1, 1, "x")}, 64), "a" + strings.Repeat("x", 64) + "b"},
	} {
		if got, err := Apply(c.text, c.l); got != c.want || err != api.OK {
			t.Errorf("%s: %q and the error %d, want %q", c.what, got, err, c.want)
		}
	}
	for _, c := range badLists() {
		if got, err := Apply("abcd", c.l); got != "" || err != c.want {
			t.Errorf("%s: %q and the error %d, want nothing and %d", c.what, got, err, c.want)
		}
	}
}

func TestApplyOfManyLists(t *testing.T) { // P4.2
	forMany(t, func(s string, l []api.Edit) {
		want := modelApply(s, l)
		if got, err := Apply(s, l); got != want || err != api.OK {
			t.Errorf("Apply(%q, %#v) = %q and the error %d, want %q", s, l, got, err, want)
		}
	})
}

func TestInvert(t *testing.T) { // P4.3
	for _, c := range []struct {
		what    string
		text    string
		l, want []api.Edit
	}{
		{"nil", "abcd", nil, nil},
		{"nil for the empty text", "", nil, nil},
		{"an insertion into the empty text", "", []api.Edit{ed(0, 0, "xy")}, []api.Edit{ed(0, 2, "")}},
		{"an empty Text", "abcd", []api.Edit{ed(1, 3, "")}, []api.Edit{ed(1, 1, "bc")}},
		{"all of it", "abcd", []api.Edit{ed(0, 4, "")}, []api.Edit{ed(0, 0, "abcd")}},
		{"nothing for nothing", "abcd", []api.Edit{ed(2, 2, "")}, []api.Edit{ed(2, 2, "")}},
		{"a Text that equals what it replaces", "abcd", []api.Edit{ed(1, 3, "bc")}, []api.Edit{ed(1, 3, "bc")}},
		{"two insertions at one place", "abcd", []api.Edit{ed(2, 2, "x"), ed(2, 2, "yz")}, []api.Edit{ed(2, 3, ""), ed(3, 5, "")}},
		{"neighbors", "abcd", []api.Edit{ed(0, 1, ""), ed(1, 2, "xy"), ed(2, 3, "")},
			[]api.Edit{ed(0, 0, "a"), ed(0, 2, "b"), ed(2, 2, "c")}},
		{"at 0 and at the end", "abcd", []api.Edit{ed(0, 0, "x"), ed(4, 4, "y")}, []api.Edit{ed(0, 1, ""), ed(5, 6, "")}},
		{"offsets of the new text", "abcd", []api.Edit{ed(0, 1, "xyz"), ed(2, 3, ""), ed(3, 4, "w")},
			[]api.Edit{ed(0, 3, "a"), ed(4, 4, "c"), ed(4, 5, "d")}},
		{"any bytes", "a\u20acb", []api.Edit{ed(2, 3, "\xff\xff")}, []api.Edit{ed(2, 4, "\x82")}},
	} {
		got, err := Invert(c.text, c.l)
		checkEdits(t, c.what, got, err, c.want)
	}
	got, err := Invert(strings.Repeat("ab", 64), spread(64, "xy"))
	want := make([]api.Edit, 64)
	for i := range want {
		want[i] = ed(3*i, 3*i+2, "a")
	}
	checkEdits(t, "64 edits", got, err, want)
	for _, c := range badLists() {
		got, err := Invert("abcd", c.l)
		checkRefused(t, c.what, got, err, c.want)
	}
}

func TestInvertOfManyLists(t *testing.T) { // P4.3
	forMany(t, func(s string, l []api.Edit) {
		var want []api.Edit
		for i, e := range l {
			at := len(modelApply(s, l[:i])) - len(s) + e.From
			want = append(want, ed(at, at+len(e.Text), s[e.From:e.To]))
		}
		got, err := Invert(s, l)
		checkEdits(t, "Invert", got, err, want)
	})
}

func TestInverseLeadsBack(t *testing.T) { // P4.8
	forMany(t, func(s string, l []api.Edit) {
		after, _ := Apply(s, l)
		inverse, _ := Invert(s, l)
		if back, err := Apply(after, inverse); back != s || err != api.OK {
			t.Errorf("%q, %#v: the inverse %#v leads to %q with the error %d", s, l, inverse, back, err)
		}
	})
}

func TestCompose(t *testing.T) { // P4.4
	for _, c := range []struct {
		what       string
		text       string
		a, b, want []api.Edit
	}{
		{"none", "abcd", nil, nil, nil},
		{"none of the empty text", "", nil, nil, nil},
		{"only a", "abcd", []api.Edit{ed(1, 2, "x")}, nil, []api.Edit{ed(1, 2, "x")}},
		{"only b", "abcd", nil, []api.Edit{ed(1, 2, "x")}, []api.Edit{ed(1, 2, "x")}},
		{"insertions into the empty text", "", []api.Edit{ed(0, 0, "xy")}, []api.Edit{ed(1, 1, "z")}, []api.Edit{ed(0, 0, "xzy")}},
		{"far from each other", "abcd", []api.Edit{ed(0, 1, "xyz")}, []api.Edit{ed(5, 6, "")}, []api.Edit{ed(0, 1, "xyz"), ed(3, 4, "")}},
		{"b before a", "abcd", []api.Edit{ed(3, 3, "x")}, []api.Edit{ed(0, 1, "yz")}, []api.Edit{ed(0, 1, "yz"), ed(3, 3, "x")}},
		{"b inside a Text of a", "abcd", []api.Edit{ed(1, 2, "xyz")}, []api.Edit{ed(2, 3, "w")}, []api.Edit{ed(1, 2, "xwz")}},
		{"b takes a part of a Text away", "abcd", []api.Edit{ed(1, 1, "xyz")}, []api.Edit{ed(2, 3, "")}, []api.Edit{ed(1, 1, "xz")}},
		{"b inserts where a Text begins", "abcd", []api.Edit{ed(1, 2, "x")}, []api.Edit{ed(1, 1, "y")}, []api.Edit{ed(1, 2, "yx")}},
		{"b inserts where a Text ends", "abcd", []api.Edit{ed(1, 2, "x")}, []api.Edit{ed(2, 2, "y")}, []api.Edit{ed(1, 2, "xy")}},
		{"b inserts where a took away", "abcd", []api.Edit{ed(1, 3, "")}, []api.Edit{ed(1, 1, "y")}, []api.Edit{ed(1, 3, "y")}},
		{"b begins in a Text and ends behind it", "abcd", []api.Edit{ed(1, 1, "xy")}, []api.Edit{ed(2, 4, "z")}, []api.Edit{ed(1, 2, "xz")}},
		{"b begins before a Text and ends in it", "abcd", []api.Edit{ed(1, 1, "xy")}, []api.Edit{ed(0, 2, "z")}, []api.Edit{ed(0, 1, "zy")}},
		{"b reaches over several edits of a", "abcdef", []api.Edit{ed(1, 2, "x"), ed(3, 3, "y"), ed(4, 5, "")}, []api.Edit{ed(0, 5, "z")}, []api.Edit{ed(0, 5, "z")}},
		{"b takes away what a inserted", "abcd", []api.Edit{ed(2, 2, "xy")}, []api.Edit{ed(2, 4, "")}, nil},
		{"b takes away what a inserted for others", "abcd", []api.Edit{ed(1, 2, "xy")}, []api.Edit{ed(1, 3, "")}, []api.Edit{ed(1, 2, "")}},
		{"b puts back what a took away", "abcd", []api.Edit{ed(1, 3, "")}, []api.Edit{ed(1, 1, "bc")}, nil},
		{"b puts back what a replaced", "abcd", []api.Edit{ed(1, 3, "x")}, []api.Edit{ed(1, 2, "bc")}, nil},
		{"b puts back a part", "abcd", []api.Edit{ed(1, 3, "")}, []api.Edit{ed(1, 1, "b")}, []api.Edit{ed(1, 3, "b")}},
		{"a inserts the byte that b takes away beside it", "aa", []api.Edit{ed(1, 1, "a")}, []api.Edit{ed(0, 1, "")}, nil},
		{"a takes away and b inserts the same elsewhere", "abcd", []api.Edit{ed(0, 1, "")}, []api.Edit{ed(1, 1, "a")}, []api.Edit{ed(0, 1, ""), ed(2, 2, "a")}},
		{"neighbors of a", "abcd", []api.Edit{ed(0, 1, "x"), ed(1, 2, "y")}, nil, []api.Edit{ed(0, 2, "xy")}},
		{"neighbors of b", "abcd", nil, []api.Edit{ed(1, 1, "x"), ed(1, 2, ""), ed(2, 2, "y")}, []api.Edit{ed(1, 2, "xy")}},
		{"an edit of a and one of b become neighbors", "abcd", []api.Edit{ed(1, 2, "x")}, []api.Edit{ed(2, 3, "y")}, []api.Edit{ed(1, 3, "xy")}},
		{"b takes away what is between two edits of a", "abcd", []api.Edit{ed(0, 1, "x"), ed(2, 3, "y")}, []api.Edit{ed(1, 2, "")}, []api.Edit{ed(0, 3, "xy")}},
		{"a changes nothing", "abcd", []api.Edit{ed(0, 0, ""), ed(1, 3, "bc")}, nil, nil},
		{"b changes nothing", "abcd", nil, []api.Edit{ed(0, 2, "ab"), ed(4, 4, "")}, nil},
		{"bytes replaced by the same ones are not kept", "abcd", []api.Edit{ed(0, 3, "abc")}, []api.Edit{ed(1, 2, "x")}, []api.Edit{ed(0, 3, "axc")}},
		{"nor if b does so", "abcd", []api.Edit{ed(1, 2, "x")}, []api.Edit{ed(0, 3, "axc")}, []api.Edit{ed(0, 3, "axc")}},
		{"a Text with a kept byte on the other side", "ab", []api.Edit{ed(0, 1, "b")}, []api.Edit{ed(1, 2, "")}, []api.Edit{ed(0, 2, "b")}},
		{"a takes all away", "abcd", []api.Edit{ed(0, 4, "")}, []api.Edit{ed(0, 0, "ad")}, []api.Edit{ed(0, 4, "ad")}},
		{"b takes all away", "abcd", []api.Edit{ed(0, 0, "x"), ed(4, 4, "y")}, []api.Edit{ed(0, 6, "")}, []api.Edit{ed(0, 4, "")}},
		{"at 0 and at the end", "abcd", []api.Edit{ed(0, 0, "x"), ed(4, 4, "y")}, []api.Edit{ed(0, 0, "z"), ed(6, 6, "w")}, []api.Edit{ed(0, 0, "zx"), ed(4, 4, "yw")}},
		{"any bytes", "\u20ac", []api.Edit{ed(1, 2, "")}, []api.Edit{ed(1, 1, "\x82\xff")}, []api.Edit{ed(1, 2, "\x82\xff")}},
	} {
		got, err := Compose(c.text, c.a, c.b)
		checkEdits(t, c.what, got, err, c.want)
	}
}

func TestComposeOfManyLists(t *testing.T) { // P4.4
	forPairs(t, func(s string, a, b []api.Edit) {
		want := modelCompose(s, a, b)
		got, err := Compose(s, a, b)
		if len(want) > api.MaxEdits {
			checkRefused(t, "a composition with too many edits", got, err, api.ErrLimit)
			return
		}
		if !slices.Equal(got, want) || err != api.OK {
			t.Errorf("Compose(%q, %#v, %#v) = %#v and the error %d, want %#v", s, a, b, got, err, want)
		}
	})
}

func TestComposeHasErrors(t *testing.T) { // P4.4
	const text = "abcd"
	good := []api.Edit{ed(0, 1, "x")}
	for _, c := range badLists() {
		got, err := Compose(text, c.l, good)
		checkRefused(t, c.what+", in a", got, err, c.want)
		got, err = Compose(text, good, c.l)
		checkRefused(t, c.what+", in b", got, err, c.want)
		for _, d := range badLists() {
			got, err = Compose(text, c.l, d.l)
			checkRefused(t, c.what+", in a, and "+d.what+", in b", got, err, c.want)
		}
	}
	for _, c := range []struct {
		what string
		a, b []api.Edit
		want api.Errno
	}{
		{"b is valid only for the text before", []api.Edit{ed(0, 4, "")}, []api.Edit{ed(0, 4, "x")}, api.ErrRange},
		{"b overlaps in the text after", []api.Edit{ed(4, 4, "efgh")}, []api.Edit{ed(4, 7, ""), ed(6, 8, "")}, api.ErrArg},
		{"b is too long in the text after", []api.Edit{ed(4, 4, "efgh")}, slices.Repeat([]api.Edit{ed(8, 8, "x")}, 65), api.ErrLimit},
	} {
		got, err := Compose(text, c.a, c.b)
		checkRefused(t, c.what, got, err, c.want)
	}
	got, err := Compose(text, []api.Edit{ed(4, 4, "efgh")}, []api.Edit{ed(4, 8, "x")})
	checkEdits(t, "b is valid only for the text after", got, err, []api.Edit{ed(4, 4, "x")})
}

func TestComposeHasALimit(t *testing.T) { // P4.4
	s := strings.Repeat("ab", 65)
	one := []api.Edit{ed(128, 129, "x")}
	got, err := Compose(s, spread(63, "x"), one)
	checkEdits(t, "64 edits of the normal form", got, err, append(spread(63, "x"), one...))
	got, err = Compose(s, spread(64, "x"), one)
	checkRefused(t, "65 edits of the normal form", got, err, api.ErrLimit)
	got, err = Compose(s, one, spread(64, "x"))
	checkRefused(t, "65 edits of the normal form, 64 of b", got, err, api.ErrLimit)
	got, err = Compose(s, spread(64, "x"), append(spread(63, "a"), one...))
	checkEdits(t, "127 edits, most of which change nothing together", got, err, []api.Edit{ed(126, 127, "x"), ed(128, 129, "x")})
	got, err = Compose(s, spread(64, "a"), one)
	checkEdits(t, "65 edits, most of which change nothing", got, err, one)
	got, err = Compose(s, spread(64, "x"), []api.Edit{ed(127, 129, "")})
	checkEdits(t, "65 edits, two of which are neighbors", got, err, append(spread(63, "x"), ed(126, 129, "x")))

	var odd []api.Edit
	for i := range 64 {
		odd = append(odd, ed(2*i+1, 2*i+2, "y"))
	}
	got, err = Compose(s, spread(64, "x"), odd)
	checkEdits(t, "128 neighbors", got, err, []api.Edit{ed(0, 128, strings.Repeat("xy", 64))})
	got, err = Compose(s, spread(64, "x"), append([]api.Edit{ed(-1, 0, "")}, odd...))
	checkRefused(t, "a list of 65 edits", got, err, api.ErrLimit)
	got, err = Compose(s, spread(64, "x"), append([]api.Edit{ed(-1, 0, "")}, odd[1:]...))
	checkRefused(t, "an error of b and too many edits", got, err, api.ErrRange)
}

func TestCompositionDoesBoth(t *testing.T) { // P4.9
	forPairs(t, func(s string, a, b []api.Edit) {
		both, err := Compose(s, a, b)
		if err != api.OK {
			return
		}
		mid, _ := Apply(s, a)
		want, _ := Apply(mid, b)
		if got, err := Apply(s, both); got != want || err != api.OK {
			t.Errorf("%q, %#v, %#v: the composition %#v leads to %q with the error %d, want %q", s, a, b, both, got, err, want)
		}
	})
}

func TestComposingWithTheInverse(t *testing.T) { // P4.9
	forMany(t, func(s string, l []api.Edit) {
		inverse, _ := Invert(s, l)
		got, err := Compose(s, l, inverse)
		checkEdits(t, "a list and its inverse", got, err, nil)
		after, _ := Apply(s, l)
		got, err = Compose(after, inverse, l)
		checkEdits(t, "the inverse and the list", got, err, nil)
	})
}

// checkThree composes three lists in either order.
func checkThree(t *testing.T, s string, a, b, c []api.Edit) (compared bool) {
	afterA := modelApply(s, a)
	want := modelApply(modelApply(afterA, b), c)
	ab, err1 := Compose(s, a, b)
	bc, err2 := Compose(afterA, b, c)
	if err1 != api.OK || err2 != api.OK {
		return false
	}
	left, err1 := Compose(s, ab, c)
	right, err2 := Compose(s, a, bc)
	if err1 != api.OK || err2 != api.OK {
		return false
	}
	for _, l := range [][]api.Edit{left, right} {
		if got, err := Apply(s, l); got != want || err != api.OK {
			t.Errorf("%q, %#v, %#v, %#v: the composition %#v leads to %q with the error %d, want %q", s, a, b, c, l, got, err, want)
		}
	}
	return true
}

func TestComposingThree(t *testing.T) { // P4.9
	d := dice(9)
	compared := 0
	for range 4000 {
		s := d.text(12)
		a := d.list(s, 3)
		mid := modelApply(s, a)
		b := d.list(mid, 3)
		c := d.list(modelApply(mid, b), 3)
		if checkThree(t, s, a, b, c) {
			compared++
		}
	}
	if compared != 4000 {
		t.Errorf("only %d of 4000 compositions have no error", compared)
	}
	checkThree(t, "abcd", []api.Edit{ed(1, 3, "")}, []api.Edit{ed(1, 1, "bc")}, []api.Edit{ed(1, 2, "x")})
	checkThree(t, "", []api.Edit{ed(0, 0, "ab")}, []api.Edit{ed(1, 1, "x")}, []api.Edit{ed(0, 3, "")})
}

func TestMap(t *testing.T) { // P4.5
	const far = 1 << 40
	replaced := []api.Edit{ed(2, 5, "wxyz")}
	shorter := []api.Edit{ed(2, 5, "x")}
	removed := []api.Edit{ed(2, 5, "")}
	inserted := []api.Edit{ed(2, 2, "xyz")}
	twice := []api.Edit{ed(2, 2, "x"), ed(2, 2, "yz")}
	beside := []api.Edit{ed(2, 2, "x"), ed(2, 4, "yyy"), ed(4, 4, "zzzz")}
	neighbors := []api.Edit{ed(1, 3, "x"), ed(3, 5, "yzyz")}
	for _, c := range []struct {
		what          string
		l             []api.Edit
		offset        int
		before, after int
	}{
		{"nil", nil, 3, 3, 3},
		{"nil and a negative offset", nil, -3, -3, -3},
		{"before a replacement", replaced, 1, 1, 1},
		{"at its beginning", replaced, 2, 2, 2},
		{"inside it", replaced, 3, 2, 6},
		{"inside it, near its end", replaced, 4, 2, 6},
		{"at its end", replaced, 5, 6, 6},
		{"behind it", replaced, 6, 7, 7},
		{"far behind it", replaced, far, far + 1, far + 1},
		{"far before it", replaced, -far, -far, -far},
		{"inside a shorter one", shorter, 4, 2, 3},
		{"at the end of a shorter one", shorter, 5, 3, 3},
		{"at the beginning of what is removed", removed, 2, 2, 2},
		{"inside what is removed", removed, 3, 2, 2},
		{"at the end of what is removed", removed, 5, 2, 2},
		{"behind what is removed", removed, 6, 3, 3},
		{"before an insertion", inserted, 1, 1, 1},
		{"at an insertion", inserted, 2, 2, 5},
		{"behind an insertion", inserted, 3, 6, 6},
		{"before two insertions", twice, 1, 1, 1},
		{"at two insertions", twice, 2, 2, 5},
		{"behind two insertions", twice, 3, 6, 6},
		{"at an insertion before a replacement", beside, 2, 2, 3},
		{"inside a replacement behind an insertion", beside, 3, 3, 6},
		{"at an insertion behind a replacement", beside, 4, 6, 10},
		{"behind them", beside, 5, 11, 11},
		{"inside the first neighbor", neighbors, 2, 1, 2},
		{"between neighbors", neighbors, 3, 2, 2},
		{"inside the second neighbor", neighbors, 4, 2, 6},
		{"behind neighbors", neighbors, 5, 6, 6},
		{"at an insertion at 0", []api.Edit{ed(0, 0, "xy")}, 0, 0, 2},
		{"before an insertion at 0", []api.Edit{ed(0, 0, "xy")}, -1, -1, -1},
		{"an edit that does nothing", []api.Edit{ed(3, 3, "")}, 3, 3, 3},
		{"a replacement by the same length", []api.Edit{ed(1, 3, "xy")}, 2, 1, 3},
		{"edits for a long text only", []api.Edit{ed(far, far+2, "x")}, far + 1, far, far + 1},
		{"behind edits for a long text only", []api.Edit{ed(0, far, "")}, far + 3, 3, 3},
		{"at the greatest end", []api.Edit{ed(0, math.MaxInt, "x")}, math.MaxInt, 1, 1},
		{"far before an edit", replaced, math.MinInt, math.MinInt, math.MinInt},
	} {
		if got := Map(c.l, c.offset, false); got != c.before {
			t.Errorf("%s: %d, want %d", c.what, got, c.before)
		}
		if got := Map(c.l, c.offset, true); got != c.after {
			t.Errorf("%s, after: %d, want %d", c.what, got, c.after)
		}
	}
}

func TestMapOfListsThatAreNotValid(t *testing.T) { // P4.5
	long := make([]api.Edit, 65)
	for i := range long {
		long[i] = ed(0, 0, "x")
	}
	for _, c := range []struct {
		what string
		l    []api.Edit
	}{
		{"a negative From", []api.Edit{ed(-1, 1, "xyz")}},
		{"a negative From and To", []api.Edit{ed(-2, -1, "xyz")}},
		{"To less than From", []api.Edit{ed(2, 1, "xyz")}},
		{"overlapping", []api.Edit{ed(0, 2, "xyz"), ed(1, 3, "w")}},
		{"not sorted", []api.Edit{ed(2, 3, "xyz"), ed(0, 1, "w")}},
		{"an insertion where the edit before begins", []api.Edit{ed(0, 3, "x"), ed(0, 0, "y")}},
		{"a valid edit, then a bad one", []api.Edit{ed(0, 0, "xyz"), ed(5, 4, "")}},
		{"65 edits", long},
	} {
		for offset := -3; offset < 8; offset++ {
			for _, after := range []bool{false, true} {
				if got := Map(c.l, offset, after); got != offset {
					t.Errorf("%s: %d is mapped to %d", c.what, offset, got)
				}
			}
		}
	}
	if got := Map(long[:64], 0, true); got != 64 {
		t.Errorf("64 edits: 0 is mapped to %d", got)
	}
	if got := Map(long[:64], 1, false); got != 65 {
		t.Errorf("64 edits: 1 is mapped to %d", got)
	}
}

func TestMapOfManyLists(t *testing.T) { // P4.5
	forMany(t, func(s string, l []api.Edit) {
		for offset := -2; offset <= len(s)+2; offset++ {
			for _, after := range []bool{false, true} {
				if got, want := Map(l, offset, after), modelMap(l, offset, after); got != want {
					t.Errorf("Map(%#v, %d, %v) = %d, want %d", l, offset, after, got, want)
				}
			}
		}
	})
}

func TestMapKeepsTheOrder(t *testing.T) { // P4.11
	forMany(t, func(s string, l []api.Edit) {
		lastBefore, lastAfter := math.MinInt, math.MinInt
		for offset := -2; offset <= len(s)+2; offset++ {
			before, after := Map(l, offset, false), Map(l, offset, true)
			if before < lastBefore || after < lastAfter || before > after {
				t.Errorf("Map(%#v, %d) is %d, or %d after, and at the offset before %d, or %d", l, offset, before, after, lastBefore, lastAfter)
			}
			lastBefore, lastAfter = before, after
		}
	})
}

func TestImagesOfKeptBytes(t *testing.T) { // P4.11
	forMany(t, func(s string, l []api.Edit) {
		after, _ := Apply(s, l)
		for at, c := range edited(cells(s), l) {
			if c.origin < 0 {
				continue
			}
			if after[at] != s[c.origin] {
				t.Errorf("%q, %#v: the byte %d has the image %q", s, l, c.origin, after[at])
			}
			if from, to := Map(l, c.origin, true), Map(l, c.origin+1, false); from != at || to != at+1 {
				t.Errorf("%q, %#v: the byte %d is mapped to %d to %d, want %d", s, l, c.origin, from, to, at)
			}
		}
	})
}

func TestDiff(t *testing.T) { // P4.6
	for _, c := range []struct {
		a, b string
		want api.Edit
	}{
		{"abcd", "abxd", ed(2, 3, "x")},
		{"", "ab", ed(0, 0, "ab")},
		{"ab", "", ed(0, 2, "")},
		{"abcd", "xbcd", ed(0, 1, "x")},
		{"abcd", "abcx", ed(3, 4, "x")},
		{"abcd", "xbcy", ed(0, 4, "xbcy")},
		{"abcd", "abcdx", ed(4, 4, "x")},
		{"abcd", "xabcd", ed(0, 0, "x")},
		{"abcd", "ad", ed(1, 3, "")},
		{"ad", "abcd", ed(1, 1, "bc")},
		{"abcd", "wxyz", ed(0, 4, "wxyz")},

		// The prefix and the suffix would overlap.
		{"aa", "a", ed(1, 2, "")},
		{"a", "aa", ed(1, 1, "a")},
		{"aaa", "a", ed(1, 3, "")},
		{"aba", "ababa", ed(3, 3, "ba")},
		{"ababa", "aba", ed(3, 5, "")},
		{"abab", "ab", ed(2, 4, "")},
		{"xaay", "xay", ed(2, 3, "")},
		{"xay", "xaay", ed(2, 2, "a")},
		{"aabaa", "aaa", ed(2, 4, "")},

		{"\u20ac", "\u20ad", ed(2, 3, "\xad")}, // bytes of a character
		{"\xff\x00\n", "\xff\n", ed(1, 2, "")},
	} {
		checkEdits(t, "Diff of "+c.a+" and "+c.b, Diff(c.a, c.b), api.OK, []api.Edit{c.want})
	}
	for _, s := range []string{"", "a", "abcd", "\xff", strings.Repeat("ab\n", 1000)} {
		if got := Diff(s, s); got != nil {
			t.Errorf("Diff of a text and the same has %#v", got)
		}
	}
}

// leads reports whether an edit leads from a to b.
func leads(a string, e api.Edit, b string) bool {
	return a[:e.From]+e.Text+a[e.To:] == b
}

func TestDiffIsTheLeastEdit(t *testing.T) { // P4.6, P4.12
	forTexts(5, func(a string) {
		forTexts(5, func(b string) {
			l := Diff(a, b)
			if a == b {
				checkEdits(t, "Diff of a text and the same", l, api.OK, nil)
				return
			}
			if len(l) != 1 || Valid(a, l) != api.OK || !leads(a, l[0], b) {
				t.Fatalf("Diff(%q, %q) = %#v", a, b, l)
			}
			for from := range len(a) + 1 {
				for to := from; to <= len(a); to++ {
					if n := len(b) - (len(a) - to); n < from || !leads(a, ed(from, to, b[from:n]), b) {
						continue
					}
					if length := to - from + len(b) - len(a); l[0].To-l[0].From > to-from || len(l[0].Text) > length {
						t.Errorf("Diff(%q, %q) = %#v is not the least one; there is one from %d to %d", a, b, l, from, to)
					}
				}
			}
		})
	})
}

func TestNormal(t *testing.T) { // P4.7
	for _, c := range []struct {
		what    string
		text    string
		l, want []api.Edit
	}{
		{"nil", "abcd", nil, nil},
		{"nil for the empty text", "", nil, nil},
		{"a normal form", "abcd", []api.Edit{ed(0, 1, "x"), ed(2, 2, "y"), ed(3, 4, "")}, []api.Edit{ed(0, 1, "x"), ed(2, 2, "y"), ed(3, 4, "")}},
		{"nothing for nothing", "abcd", []api.Edit{ed(2, 2, "")}, nil},
		{"nothing for nothing in the empty text", "", []api.Edit{ed(0, 0, ""), ed(0, 0, "")}, nil},
		{"a Text that equals what it replaces", "abcd", []api.Edit{ed(1, 3, "bc")}, nil},
		{"a Text that begins like what it replaces", "abcd", []api.Edit{ed(1, 3, "bx")}, []api.Edit{ed(1, 3, "bx")}},
		{"two insertions at one place", "abcd", []api.Edit{ed(2, 2, "x"), ed(2, 2, "y")}, []api.Edit{ed(2, 2, "xy")}},
		{"insertions into the empty text", "", []api.Edit{ed(0, 0, "x"), ed(0, 0, ""), ed(0, 0, "y")}, []api.Edit{ed(0, 0, "xy")}},
		{"an insertion before a replacement", "abcd", []api.Edit{ed(1, 1, "x"), ed(1, 2, "y")}, []api.Edit{ed(1, 2, "xy")}},
		{"an insertion behind a replacement", "abcd", []api.Edit{ed(1, 2, "x"), ed(2, 2, "y")}, []api.Edit{ed(1, 2, "xy")}},
		{"three neighbors", "abcd", []api.Edit{ed(0, 1, "x"), ed(1, 3, ""), ed(3, 4, "yz")}, []api.Edit{ed(0, 4, "xyz")}},
		{"two groups", "abcd", []api.Edit{ed(0, 0, "x"), ed(0, 1, ""), ed(2, 3, "y"), ed(3, 4, "z")}, []api.Edit{ed(0, 1, "x"), ed(2, 4, "yz")}},
		{"neighbors that put the same bytes together", "abcd", []api.Edit{ed(1, 2, "bc"), ed(2, 3, "")}, nil},
		{"a removed byte is inserted again", "aab", []api.Edit{ed(0, 1, ""), ed(1, 1, "a")}, nil},
		{"a neighbor that changes nothing is joined first", "abcd", []api.Edit{ed(1, 2, "b"), ed(2, 3, "x")}, []api.Edit{ed(1, 3, "bx")}},
		{"an empty neighbor joins two edits", "abcd", []api.Edit{ed(0, 1, "x"), ed(1, 1, ""), ed(1, 2, "y")}, []api.Edit{ed(0, 2, "xy")}},
		{"kept bytes around the same bytes", "aaa", []api.Edit{ed(0, 0, "a"), ed(1, 2, "")}, []api.Edit{ed(0, 0, "a"), ed(1, 2, "")}},
		{"all of it", "abcd", []api.Edit{ed(0, 4, "")}, []api.Edit{ed(0, 4, "")}},
		{"at the end", "abcd", []api.Edit{ed(3, 4, "d"), ed(4, 4, "x"), ed(4, 4, "y")}, []api.Edit{ed(3, 4, "dxy")}},
		{"any bytes", "\u20ac", []api.Edit{ed(1, 2, "\x82"), ed(2, 3, "\xac")}, nil},
		{"64 insertions", "ab", slices.Repeat([]api.Edit{ed(1, 1, "x")}, 64), []api.Edit{ed(1, 1, strings.Repeat("x", 64))}},
		{"64 edits", strings.Repeat("ab", 64), spread(64, "x"), spread(64, "x")},
		{"64 edits that change nothing", strings.Repeat("ab", 64), spread(64, "a"), nil},
	} {
		got, err := Normal(c.text, c.l)
		checkEdits(t, c.what, got, err, c.want)
	}
	for _, c := range badLists() {
		got, err := Normal("abcd", c.l)
		checkRefused(t, c.what, got, err, c.want)
	}
}

func TestNormalOfManyLists(t *testing.T) { // P4.7, P4.10
	forMany(t, func(s string, l []api.Edit) {
		normal, err := Normal(s, l)
		checkEdits(t, "Normal", normal, err, modelNormal(s, l))
		want, _ := Apply(s, l)
		if got, err := Apply(s, normal); got != want || err != api.OK {
			t.Errorf("%q, %#v: the normal form %#v leads to %q with the error %d, want %q", s, l, normal, got, err, want)
		}
		again, err := Normal(s, normal)
		checkEdits(t, "Normal of a normal form", again, err, normal)
		for i, e := range normal {
			if i > 0 && e.From == normal[i-1].To {
				t.Errorf("%q, %#v: the normal form %#v has neighbors", s, l, normal)
			}
		}
	})
}

// guarded returns a list with memory behind it, and what both together contain.
func guarded(l ...api.Edit) (list, all []api.Edit) {
	all = append(slices.Clone(l), ed(7, 7, "guard"), ed(8, 8, "guard"))
	return all[:len(l)], all
}

func TestArgumentsAndResultsAreIndependent(t *testing.T) { // R4
	const text = "abcd"
	results := map[string]func(l, b []api.Edit) []api.Edit{
		"Invert":               func(l, _ []api.Edit) []api.Edit { r, _ := Invert(text, l); return r },
		"Normal":               func(l, _ []api.Edit) []api.Edit { r, _ := Normal(text, l); return r },
		"Compose":              func(l, b []api.Edit) []api.Edit { r, _ := Compose(text, l, b); return r },
		"Compose of l and nil": func(l, _ []api.Edit) []api.Edit { r, _ := Compose(text, l, nil); return r },
		"Compose of nil and l": func(l, _ []api.Edit) []api.Edit { r, _ := Compose(text, nil, l); return r },
		"Diff":                 func(_, _ []api.Edit) []api.Edit { return Diff(text, "axyd") },
		"no result": func(l, b []api.Edit) []api.Edit {
			Valid(text, l)
			Apply(text, l)
			Map(l, 2, true)
			return nil
		},
	}
	for name, call := range results {
		l, all := guarded(ed(0, 1, "x"), ed(1, 1, "y"), ed(2, 3, "z"))
		b, allB := guarded(ed(1, 2, "w"), ed(4, 5, "v"))
		before, beforeB := slices.Clone(all), slices.Clone(allB)
		first := call(l, b)
		want := slices.Clone(first)
		if !slices.Equal(all, before) || !slices.Equal(allB, beforeB) {
			t.Errorf("%s changed its list or the memory behind it: %#v, %#v", name, all, allB)
		}
		second := call(l, b)
		clear(all)
		clear(allB)
		if !slices.Equal(first, want) {
			t.Errorf("%s: after a change of the lists the result is %#v, want %#v", name, first, want)
		}
		clear(first[:cap(first)])
		if !slices.Equal(second, want) {
			t.Errorf("%s: after a change of another result the result is %#v, want %#v", name, second, want)
		}
		copy(all, before)
		copy(allB, beforeB)
		if third := call(l, b); !slices.Equal(third, want) {
			t.Errorf("%s: after a change of a result it returns %#v, want %#v", name, third, want)
		}
	}
}

func TestLongText(t *testing.T) {
	s := strings.Repeat("fun f() = 1\n", api.MaxText/12)
	l := make([]api.Edit, api.MaxEdits)
	for i := range l {
		l[i] = ed(60*i+10, 60*i+11, strings.Repeat("2", 40))
	}
	after, err := Apply(s, l)
	if len(after) != len(s)+64*39 || err != api.OK {
		t.Errorf("the new text has %d bytes, with the error %d", len(after), err)
	}
	inverse, _ := Invert(s, l)
	if back, err := Apply(after, inverse); back != s || err != api.OK {
		t.Errorf("the inverse doesn't lead back, with the error %d", err)
	}
	got, err := Compose(s, l, nil)
	checkEdits(t, "the composition with none", got, err, l)
}

func TestExamples(t *testing.T) {
	l := []api.Edit{ed(1, 2, "xy"), ed(3, 3, "z")}
	if got, err := Apply("abcd", l); got != "axyczd" || err != api.OK {
		t.Errorf("Apply: %q and the error %d", got, err)
	}
	inverse, err := Invert("abcd", l)
	checkEdits(t, "Invert", inverse, err, []api.Edit{ed(1, 3, "b"), ed(4, 5, "")})
	for _, c := range []struct{ offset, before, after int }{{1, 1, 1}, {2, 3, 3}, {3, 4, 5}, {4, 6, 6}} {
		if before, after := Map(l, c.offset, false), Map(l, c.offset, true); before != c.before || after != c.after {
			t.Errorf("Map of %d is %d, or %d after, want %d and %d", c.offset, before, after, c.before, c.after)
		}
	}
	checkEdits(t, "Diff of abcd and abxd", Diff("abcd", "abxd"), api.OK, []api.Edit{ed(2, 3, "x")})
	checkEdits(t, "Diff of aa and a", Diff("aa", "a"), api.OK, []api.Edit{ed(1, 2, "")})
}
