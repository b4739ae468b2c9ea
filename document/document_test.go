package document

import (
	"math"
	"slices"
	"strings"
	"testing"

	"schemalens/api"
	"schemalens/edit"
)

const smile = "\U0001f600" // 4 bytes, 2 units

// ed returns the edit of these bytes.
func ed(from, to int, text string) api.Edit {
	return api.Edit{From: from, To: to, Text: text}
}

// on returns the edit of these units of a line.
func on(line, from, to int, text string) api.PosEdit {
	return api.PosEdit{Start: api.Pos{Line: line, Unit: from}, End: api.Pos{Line: line, Unit: to}, Text: text}
}

// across returns the edit from a unit of a line to a unit of another line.
func across(line, from, last, to int, text string) api.PosEdit {
	return api.PosEdit{Start: api.Pos{Line: line, Unit: from}, End: api.Pos{Line: last, Unit: to}, Text: text}
}

func change(version int, l ...api.PosEdit) api.Change {
	return api.Change{Version: version, Edits: l}
}

// put returns the change that inserts a text at the beginning.
func put(version int, text string) api.Change {
	return change(version, on(0, 0, 0, text))
}

// unfit returns a change that fits no text of one line.
func unfit(version int) api.Change {
	return change(version, on(1, 0, 0, "never"))
}

func start(t *testing.T, text string, version int) *Doc {
	t.Helper()
	d, err := New(text, version)
	if d == nil || err != api.OK {
		t.Fatalf("New of %d bytes and %d has the error %d", len(text), version, err)
	}
	return d
}

// receive checks what Receive returns.
func receive(t *testing.T, what string, d *Doc, c api.Change, want int, wantErr api.Errno) {
	t.Helper()
	if got, err := d.Receive(c); got != want || err != wantErr {
		t.Errorf("%s: Receive of the change %d returns %d and the error %d, want %d and %d", what, c.Version, got, err, want, wantErr)
	}
}

// refuse checks that Receive returns an error and changes nothing that is seen.
func refuse(t *testing.T, what string, d *Doc, c api.Change, want api.Errno) {
	t.Helper()
	before := seen(d)
	receive(t, what, d, c, 0, want)
	if after := seen(d); after != before {
		t.Errorf("%s: the refused change %d made\n%s\nof\n%s", what, c.Version, after, before)
	}
}

// isAt checks the text, the version and the Versions of the held changes.
func isAt(t *testing.T, what string, d *Doc, text string, version int, held ...int) {
	t.Helper()
	if d.Text() != text || d.Version() != version || !slices.Equal(d.Held(), held) {
		t.Errorf("%s: the text %.200q, the version %d and held are %v, want %.200q, %d and %v", what, d.Text(), d.Version(), d.Held(), text, version, held)
	}
}

// wasAt checks the text of a remembered version.
func wasAt(t *testing.T, d *Doc, version int, want string) {
	t.Helper()
	if got, err := d.At(version); got != want || err != api.OK {
		t.Errorf("At(%d) = %.200q and the error %d, want %.200q", version, got, err, want)
	}
}

// hasSince checks the edits since a remembered version.
func hasSince(t *testing.T, what string, d *Doc, version int, want ...api.Edit) {
	t.Helper()
	if got, err := d.Since(version); !slices.Equal(got, want) || err != api.OK {
		t.Errorf("%s: Since(%d) = %#v and the error %d, want %#v", what, version, got, err, want)
	}
}

// forgets checks that versions are not remembered.
func forgets(t *testing.T, d *Doc, versions ...int) {
	t.Helper()
	for _, v := range versions {
		if text, err := d.At(v); text != "" || err != api.ErrNone {
			t.Errorf("At(%d) = %.200q and the error %d", v, text, err)
		}
		if l, err := d.Since(v); len(l) > 0 || err != api.ErrNone {
			t.Errorf("Since(%d) = %#v and the error %d", v, l, err)
		}
	}
}

func TestNew(t *testing.T) { // P5.1, P5.4 to P5.6
	for _, text := range []string{"", "ab", "a\n" + smile, "\xff\x00", strings.Repeat("x", 4096)} {
		for _, version := range []int{0, 1, 3, api.MaxInt - 1, api.MaxInt} {
			d := start(t, text, version)
			isAt(t, "New", d, text, version)
			wasAt(t, d, version, text)
			hasSince(t, "New", d, version)
			forgets(t, d, version-1, version+1, -1, api.MaxInt+1, math.MinInt, math.MaxInt)
		}
	}
}

func TestNewRefuses(t *testing.T) { // P5.1
	for _, c := range []struct {
		what    string
		text    string
		version int
		want    api.Errno
	}{
		{"4097 bytes", strings.Repeat("x", 4097), 0, api.ErrLimit},
		{"4098 bytes in fewer characters", strings.Repeat("\u20ac", 1366), 0, api.ErrLimit},
		{"the version -1", "ab", -1, api.ErrArg},
		{"the least version", "", math.MinInt, api.ErrArg},
		{"a version beyond MaxInt", "ab", 1<<40 + 1, api.ErrArg},
		{"the greatest version", "", math.MaxInt, api.ErrArg},
		{"a long text and -1", strings.Repeat("x", 4097), -1, api.ErrLimit},
		{"a long text and a version beyond MaxInt", strings.Repeat("x", 4097), 1<<40 + 1, api.ErrLimit},
	} {
		if d, err := New(c.text, c.version); d != nil || err != c.want {
			t.Errorf("%s: the document %v and the error %d, want none and %d", c.what, d, err, c.want)
		}
	}
}

func TestReceiveApplies(t *testing.T) { // P5.3
	long := strings.Repeat("x", 4096)
	for _, c := range []struct {
		what string
		text string
		l    []api.PosEdit
		want string
	}{
		{"no edits", "ab", nil, "ab"},
		{"an empty list of edits", "ab", []api.PosEdit{}, "ab"},
		{"no edits of the empty text", "", nil, ""},
		{"into the empty text", "", []api.PosEdit{on(0, 0, 0, "ab")}, "ab"},
		{"all of it", "ab\nc", []api.PosEdit{across(0, 0, 1, 1, "")}, ""},
		{"at the end", "ab\nc", []api.PosEdit{on(1, 1, 1, "d")}, "ab\ncd"},
		{"behind a character of two units", "a" + smile + "b", []api.PosEdit{on(0, 3, 4, "c")}, "a" + smile + "c"},
		{"a character of two units", "a" + smile + "b", []api.PosEdit{on(0, 1, 3, "")}, "ab"},
		{"a character of three bytes", "a\u20acb", []api.PosEdit{on(0, 1, 2, "-")}, "a-b"},
		{"bytes of no character", "\xff\xfe", []api.PosEdit{on(0, 1, 1, "\x80")}, "\xff\x80\xfe"},
		{"a break between lines", "ab\ncd", []api.PosEdit{across(0, 2, 1, 0, " ")}, "ab cd"},
		{"several edits, all at once", "ab\ncd", []api.PosEdit{on(0, 0, 1, "xx\n"), on(0, 1, 1, "y"), across(0, 2, 1, 1, "z")}, "xx\nybzd"},
		{"insertions at one place", "ab", []api.PosEdit{on(0, 1, 1, "x"), on(0, 1, 1, "y")}, "axyb"},
		{"a Text that equals what it replaces", "ab", []api.PosEdit{on(0, 0, 2, "ab")}, "ab"},
		{"64 edits", "ab", slices.Repeat([]api.PosEdit{on(0, 1, 1, "x")}, 64), "a" + strings.Repeat("x", 64) + "b"},
		{"to 4096 bytes", long[1:], []api.PosEdit{on(0, 0, 0, "y")}, "y" + long[1:]},
		{"4096 bytes by others", long, []api.PosEdit{on(0, 0, 1, "y")}, "y" + long[1:]},
		{"longer, then shorter", long, []api.PosEdit{on(0, 0, 0, long), on(0, 0, 4096, "")}, long},
		{"from 4096 bytes", long, []api.PosEdit{on(0, 0, 4096, "")}, ""},
	} {
		d := start(t, c.text, 0)
		receive(t, c.what, d, change(1, c.l...), 1, api.OK)
		isAt(t, c.what, d, c.want, 1)
		wasAt(t, d, 0, c.text)
		wasAt(t, d, 1, c.want)
		forgets(t, d, -1, 2)
	}
}

// A badChange consists of edits that do not fit the text "a\U0001f600b\ncd".
type badChange struct {
	what string
	l    []api.PosEdit
	want api.Errno
}

func badChanges() []badChange {
	long := strings.Repeat("x", 4089) // 4097 bytes with the text
	return []badChange{
		{"no such line", []api.PosEdit{on(2, 0, 0, "x")}, api.ErrRange},
		{"a negative line", []api.PosEdit{on(-1, 0, 0, "x")}, api.ErrRange},
		{"no such unit", []api.PosEdit{on(1, 3, 3, "x")}, api.ErrRange},
		{"a negative unit", []api.PosEdit{on(0, -1, 0, "x")}, api.ErrRange},
		{"the End is in no line", []api.PosEdit{across(1, 0, 2, 0, "x")}, api.ErrRange},
		{"far away", []api.PosEdit{across(math.MinInt, math.MaxInt, math.MaxInt, math.MinInt, "")}, api.ErrRange},
		{"inside a character", []api.PosEdit{on(0, 2, 3, "x")}, api.ErrArg},
		{"the End is inside a character", []api.PosEdit{on(0, 1, 2, "x")}, api.ErrArg},
		{"the End is before the Start", []api.PosEdit{on(1, 1, 0, "x")}, api.ErrArg},
		{"overlapping", []api.PosEdit{on(0, 0, 3, "x"), on(0, 1, 4, "y")}, api.ErrArg},
		{"not sorted", []api.PosEdit{on(1, 0, 0, "x"), on(0, 0, 0, "y")}, api.ErrArg},
		{"a long Text", []api.PosEdit{on(0, 0, 0, long)}, api.ErrLimit},
		{"a long Text for something", []api.PosEdit{on(1, 0, 2, long+"xx")}, api.ErrLimit},
		{"long Texts", []api.PosEdit{on(0, 0, 0, long[:2000]), on(1, 2, 2, long[2000:])}, api.ErrLimit},
		{"a good edit, then no such line", []api.PosEdit{on(0, 0, 1, ""), on(2, 0, 0, "x")}, api.ErrRange},
		{"overlapping, then no such line", []api.PosEdit{on(0, 0, 3, ""), on(0, 1, 4, ""), on(2, 0, 0, "x")}, api.ErrRange},
		{"inside a character, then no such line", []api.PosEdit{on(0, 2, 3, ""), on(2, 0, 0, "x")}, api.ErrArg},
		{"a long Text, then no such line", []api.PosEdit{on(0, 0, 0, long), on(2, 0, 0, "x")}, api.ErrRange},
		{"long overlapping Texts", []api.PosEdit{on(0, 0, 3, long), on(0, 1, 4, long)}, api.ErrArg},
		{"64 edits, the last of which is in no line", append(make([]api.PosEdit, 63), on(2, 0, 0, "")), api.ErrRange},
	}
}

func TestReceiveRefusesWhatDoesNotFit(t *testing.T) { // P5.2
	for _, c := range badChanges() {
		d := start(t, "", 0)
		receive(t, c.what, d, put(1, "a"+smile+"b\ncd"), 1, api.OK)
		refuse(t, c.what, d, change(2, c.l...), c.want)
		receive(t, c.what, d, put(3, "3"), 0, api.OK)
		refuse(t, c.what+", while a change is held", d, change(2, c.l...), c.want)
		receive(t, c.what, d, put(2, "2"), 2, api.OK)
		isAt(t, c.what, d, "32a"+smile+"b\ncd", 3)
	}
}

// full returns a document of the version 3 that holds as many changes as possible,
// from the change 5 on, and has had the versions from 1 on.
func full(t *testing.T) *Doc {
	t.Helper()
	d := start(t, "", 1)
	receive(t, "full", d, put(2, "2"), 1, api.OK)
	receive(t, "full", d, put(3, "3"), 1, api.OK)
	for v := 5; v < 21; v++ {
		receive(t, "full", d, put(v, "-"), 0, api.OK)
	}
	return d
}

func TestReceiveRefuses(t *testing.T) { // P5.2
	many := make([]api.PosEdit, 65)
	for _, c := range []struct {
		what   string
		c      api.Change
		want   api.Errno
		isFull api.Errno // the error when MaxHeld changes are held
	}{
		{"the Version 0", put(0, "x"), api.ErrArg, api.ErrArg},
		{"a negative Version", put(-1, "x"), api.ErrArg, api.ErrArg},
		{"the least Version", put(math.MinInt, "x"), api.ErrArg, api.ErrArg},
		{"a Version beyond MaxInt", put(1<<40+1, "x"), api.ErrArg, api.ErrArg},
		{"the greatest Version", put(math.MaxInt, "x"), api.ErrArg, api.ErrArg},
		{"65 edits", change(4, many...), api.ErrLimit, api.ErrLimit},
		{"65 edits of an early change", change(99, many...), api.ErrLimit, api.ErrLimit},
		{"65 edits of the change MaxInt", change(api.MaxInt, many...), api.ErrLimit, api.ErrLimit},
		{"the document's version", put(3, "3"), api.ErrTwice, api.ErrTwice},
		{"an earlier version", put(2, "2"), api.ErrTwice, api.ErrTwice},
		{"the first version", put(1, "1"), api.ErrTwice, api.ErrTwice},
		{"a held change", put(5, "-"), api.ErrTwice, api.ErrTwice},
		{"another change for a held one", put(6, "other"), api.ErrTwice, api.ErrTwice},

		{"the Version 0 and 65 edits", change(0, many...), api.ErrArg, api.ErrArg},
		{"a Version beyond MaxInt and 65 edits", change(1<<40+1, many...), api.ErrArg, api.ErrArg},
		{"the Version 0 and no such line", unfit(0), api.ErrArg, api.ErrArg},
		{"the document's version and 65 edits", change(3, many...), api.ErrLimit, api.ErrLimit},
		{"a held change and 65 edits", change(5, many...), api.ErrLimit, api.ErrLimit},
		{"65 edits, the first of which does not fit", change(4, append([]api.PosEdit{on(0, 3, 2, "")}, many[1:]...)...), api.ErrLimit, api.ErrLimit},
		{"the document's version and no such line", unfit(3), api.ErrTwice, api.ErrTwice},
		{"an earlier version and a long Text", put(2, strings.Repeat("x", 4097)), api.ErrTwice, api.ErrTwice},
		{"a held change and no such line", unfit(5), api.ErrTwice, api.ErrTwice},
		{"a further early change", put(21, "x"), api.OK, api.ErrLimit},
		{"a further early change that does not fit", unfit(21), api.OK, api.ErrLimit},
		{"the change MaxInt", put(api.MaxInt, "x"), api.OK, api.ErrLimit},
		{"the next change does not fit", unfit(4), api.ErrRange, api.ErrRange},
	} {
		d := start(t, "", 1)
		for _, c := range []api.Change{put(2, "2"), put(3, "3"), put(5, "-"), put(6, "-")} {
			d.Receive(c)
		}
		isAt(t, c.what, d, "32", 3, 5, 6)
		if c.want == api.OK {
			receive(t, c.what, d, c.c, 0, api.OK)
			isAt(t, c.what, d, "32", 3, 5, 6, c.c.Version)
		} else {
			refuse(t, c.what, d, c.c, c.want)
		}
		receive(t, c.what, d, put(4, "4"), 3, api.OK)
		if d.Text() != "--432" {
			t.Errorf("%s: then the text is %q", c.what, d.Text())
		}

		d = full(t)
		refuse(t, c.what+", when 16 changes are held", d, c.c, c.isFull)
		receive(t, c.what, d, put(4, "4"), 17, api.OK)
		isAt(t, c.what+", when 16 changes were held", d, strings.Repeat("-", 16)+"432", 20)
	}
}

func TestHeld(t *testing.T) { // P5.2 to P5.4
	d := start(t, "", 0)
	for i, v := range []int{9, 3, 17, 5, 2, 16, 4, 11, 6, 8, 10, 7, 15, 12, 14, 13} {
		receive(t, "early", d, put(v, "-"), 0, api.OK)
		if len(d.Held()) != i+1 || !slices.IsSorted(d.Held()) {
			t.Errorf("%d changes are held, but Held returns %v", i+1, d.Held())
		}
	}
	isAt(t, "16 held", d, "", 0, 2, 3, 4, 5, 6, 7, 8, 9, 10, 11, 12, 13, 14, 15, 16, 17)
	forgets(t, d, 1, 2, 17)
	refuse(t, "17 held", d, put(18, "x"), api.ErrLimit)
	refuse(t, "17 held", d, put(api.MaxInt, "x"), api.ErrLimit)
	receive(t, "the first one", d, put(1, "1"), 17, api.OK)
	isAt(t, "none held", d, strings.Repeat("-", 16)+"1", 17)
	wasAt(t, d, 1, "1")
	forgets(t, d, 0)
	receive(t, "there is room again", d, put(19, "x"), 0, api.OK)
	isAt(t, "there is room again", d, strings.Repeat("-", 16)+"1", 17, 19)
}

func TestHeldWithGaps(t *testing.T) { // P5.3
	d := start(t, "", 10)
	for _, v := range []int{12, 14, 15, 17, 1 << 40} {
		receive(t, "early", d, put(v, string(rune('a'+v%16))), 0, api.OK)
	}
	receive(t, "to 12", d, put(11, "1"), 2, api.OK)
	isAt(t, "to 12", d, "m1", 12, 14, 15, 17, 1<<40)
	receive(t, "to 15", d, put(13, "2"), 3, api.OK)
	isAt(t, "to 15", d, "po2m1", 15, 17, 1<<40)
	receive(t, "again early", d, put(18, "3"), 0, api.OK)
	refuse(t, "again", d, put(14, "x"), api.ErrTwice)
	receive(t, "to 18", d, put(16, "4"), 3, api.OK)
	isAt(t, "to 18", d, "3b4po2m1", 18, 1<<40)
}

func TestHeldThatDoesNotFit(t *testing.T) { // P5.3
	for _, c := range []struct {
		what string
		l    []api.PosEdit
	}{
		{"no such line", []api.PosEdit{on(1, 0, 0, "x")}},
		{"fits only the text when it arrived", []api.PosEdit{on(0, 3, 4, "x")}},
		{"inside a character", []api.PosEdit{on(0, 2, 2, "x")}},
		{"overlapping", []api.PosEdit{on(0, 0, 1, "x"), on(0, 0, 3, "y")}},
		{"too long", []api.PosEdit{on(0, 0, 0, strings.Repeat("x", 4092))}},
	} {
		d := start(t, "abcd", 5)
		for _, early := range []api.Change{put(8, "8"), change(9, c.l...), change(7), put(10, "A"), put(13, "D"), put(11, "B")} {
			receive(t, c.what, d, early, 0, api.OK)
		}
		receive(t, c.what, d, change(6, on(0, 0, 4, smile)), 3, api.OK)
		isAt(t, c.what, d, "8"+smile, 8, 10, 11, 13)
		hasSince(t, c.what, d, 5, ed(0, 4, "8"+smile))
		forgets(t, d, 9)
		refuse(t, c.what+", once more", d, unfit(9), api.ErrRange)
		receive(t, c.what, d, put(9, "9"), 3, api.OK)
		isAt(t, c.what, d, "BA98"+smile, 11, 13)
	}
}

func TestHeldThatFitsOnlyLater(t *testing.T) { // P5.2, P5.3
	d := start(t, "", 0)
	receive(t, "in a line that is not there yet", d, change(2, on(1, 0, 0, "b")), 0, api.OK)
	receive(t, "too long as yet", d, change(4, on(0, 0, 0, strings.Repeat("y", 4096))), 0, api.OK)
	receive(t, "takes all away", d, change(3, across(0, 0, 1, 1, "")), 0, api.OK)
	receive(t, "the line", d, put(1, "a\n"), 4, api.OK)
	isAt(t, "all fit", d, strings.Repeat("y", 4096), 4)
	wasAt(t, d, 2, "a\nb")
	wasAt(t, d, 3, "")
}

func TestVersionsAtTheEnd(t *testing.T) { // P5.2, P5.3, P5.7
	d := start(t, "a", api.MaxInt-2)
	receive(t, "the last change", d, put(api.MaxInt, "b"), 0, api.OK)
	receive(t, "the one before it", d, put(api.MaxInt-1, "c"), 2, api.OK)
	isAt(t, "at the end", d, "bca", 1<<40)
	hasSince(t, "at the end", d, api.MaxInt-2, ed(0, 0, "bc"))
	refuse(t, "at the end", d, put(api.MaxInt, "x"), api.ErrTwice)
	refuse(t, "at the end", d, put(api.MaxInt+1, "x"), api.ErrArg)
	if got, err := d.Edit(nil); got != 0 || err != api.ErrRange {
		t.Errorf("Edit at the end returns %d and the error %d", got, err)
	}

	d = start(t, "a", api.MaxInt-1)
	if got, err := d.Edit([]api.Edit{ed(0, 0, "b")}); got != 1<<40 || err != api.OK {
		t.Errorf("Edit before the end returns %d and the error %d", got, err)
	}
	isAt(t, "at the end by Edit", d, "ba", 1<<40)
}

// grown returns a document that began with the empty text and the version first,
// and has had n further ones, each with an a more.
func grown(t *testing.T, first, n int) *Doc {
	t.Helper()
	d := start(t, "", first)
	for i := range n {
		receive(t, "growing", d, put(first+i+1, "a"), 1, api.OK)
	}
	return d
}

func TestWhatIsRemembered(t *testing.T) { // P5.5, P5.6
	for _, first := range []int{0, 7, api.MaxInt - 100} {
		for n := range 40 {
			d := grown(t, first, n)
			last := first + n
			oldest := max(first, last-16)
			for v := oldest; v <= last; v++ {
				wasAt(t, d, v, strings.Repeat("a", v-first))
				var want []api.Edit
				if v < last {
					want = []api.Edit{ed(0, 0, strings.Repeat("a", last-v))}
				}
				hasSince(t, "grown", d, v, want...)
			}
			forgets(t, d, oldest-1, oldest-2, first-1, last+1, last+2, -1, api.MaxInt+1, math.MinInt, math.MaxInt)
		}
	}
}

func TestManyVersionsAtOnceAreRemembered(t *testing.T) { // P5.3, P5.5, P5.6
	for _, had := range []int{0, 1, 15, 16, 20} {
		d := grown(t, 0, had)
		for v := had + 17; v > had+1; v-- {
			receive(t, "early", d, put(v, "a"), 0, api.OK)
		}
		receive(t, "the missing one", d, put(had+1, "a"), 17, api.OK)
		for v := had + 1; v <= had+17; v++ {
			wasAt(t, d, v, strings.Repeat("a", v))
		}
		hasSince(t, "17 at once", d, had+1, ed(0, 0, strings.Repeat("a", 16)))
		forgets(t, d, had, had+18)
	}
}

func TestSince(t *testing.T) { // P5.6
	for _, c := range []struct {
		what string
		l    [][]api.Edit // by versions
		want []api.Edit
	}{
		{"one version", [][]api.Edit{{ed(1, 2, "x"), ed(3, 3, "y")}}, []api.Edit{ed(1, 2, "x"), ed(3, 3, "y")}},
		{"a version without edits", [][]api.Edit{nil}, nil},
		{"versions without edits", [][]api.Edit{nil, nil, nil}, nil},
		{"neighbors", [][]api.Edit{{ed(0, 1, "x"), ed(1, 2, "y"), ed(2, 2, "z")}}, []api.Edit{ed(0, 2, "xyz")}},
		{"edits that change nothing", [][]api.Edit{{ed(0, 2, "ab"), ed(3, 3, "")}}, nil},
		{"a version and back", [][]api.Edit{{ed(1, 3, "x")}, {ed(1, 2, "bc")}}, nil},
		{"far from each other", [][]api.Edit{{ed(3, 4, "")}, {ed(0, 0, "xy")}, {ed(3, 4, "z")}},
			[]api.Edit{ed(0, 0, "xy"), ed(1, 2, "z"), ed(3, 4, "")}},
		{"in the Text of another version", [][]api.Edit{{ed(2, 2, "xyz")}, {ed(3, 4, "")}, {ed(4, 4, "w")}}, []api.Edit{ed(2, 2, "xzw")}},
		{"all the same, but not kept", [][]api.Edit{{ed(0, 4, "")}, {ed(0, 0, "abcd")}, {ed(1, 2, "x")}}, []api.Edit{ed(1, 2, "x")}},
		{"replaced as a whole", [][]api.Edit{{ed(0, 4, "abxd")}}, []api.Edit{ed(0, 4, "abxd")}},
	} {
		d := start(t, "abcd", 3)
		for _, l := range c.l {
			if _, err := d.Edit(l); err != api.OK {
				t.Fatalf("%s: Edit has the error %d", c.what, err)
			}
		}
		hasSince(t, c.what, d, 3, c.want...)
		hasSince(t, c.what, d, d.Version())
		checkBack(t, d)
	}
}

// spread returns n edits that replace every fourth byte of a text, from the byte
// from on.
func spread(n, from int, text string) []api.Edit {
	var l []api.Edit
	for i := range n {
		l = append(l, ed(4*i+from, 4*i+from+1, text))
	}
	return l
}

func TestSinceOfTooManyEdits(t *testing.T) { // P5.6
	text := strings.Repeat("abcd", 64)
	d := start(t, text, 0)
	for i, l := range [][]api.Edit{spread(64, 0, "x"), {ed(2, 3, "y")}, spread(60, 0, "a"), {ed(2, 3, "c")}, {ed(254, 255, "z")}} {
		if got, err := d.Edit(l); got != i+1 || err != api.OK {
			t.Fatalf("Edit returns %d and the error %d", got, err)
		}
		switch i {
		case 0:
			hasSince(t, "64 edits", d, 0, spread(64, 0, "x")...)
		case 1:
			changed := strings.Repeat("xbcd", 64)
			hasSince(t, "65 edits", d, 0, ed(0, 253, "xbyd"+changed[4:253]))
			hasSince(t, "the 65th", d, 1, ed(2, 3, "y"))
		case 2:
			// The composition of all three lists would have 5 edits, but that of the first two has too many.
			hasSince(t, "too many on the way", d, 0, ed(2, 253, "y"+d.Text()[3:253]))
			hasSince(t, "61 edits", d, 1, append([]api.Edit{ed(0, 1, "a"), ed(2, 3, "y")}, spread(60, 0, "a")[1:]...)...)
		case 3:
			hasSince(t, "too many on the way, then fewer", d, 0, ed(240, 253, "xbcdxbcdxbcdx"))
			hasSince(t, "60 edits", d, 1, spread(60, 0, "a")...)
			hasSince(t, "one edit less", d, 2, append([]api.Edit{ed(0, 1, "a"), ed(2, 3, "c")}, spread(60, 0, "a")[1:]...)...)
		}
	}
	hasSince(t, "too many on the way, then again others", d, 0, ed(240, 255, "xbcdxbcdxbcdxbz"))
	hasSince(t, "the last ones", d, 3, ed(2, 3, "c"), ed(254, 255, "z"))
	hasSince(t, "the last one", d, 4, ed(254, 255, "z"))
	checkBack(t, d)
}

func TestSinceWhenAllIsBack(t *testing.T) { // P5.6
	text := strings.Repeat("abcd", 64)
	d := start(t, text, 0)
	for _, l := range [][]api.Edit{spread(33, 0, "x"), spread(33, 2, "y"), spread(33, 0, "a"), spread(33, 2, "c")} {
		d.Edit(l)
	}
	hasSince(t, "the same text after too many edits", d, 0)
	hasSince(t, "33 edits", d, 3, spread(33, 2, "c")...)
	checkBack(t, d)
}

func TestEdit(t *testing.T) { // P5.7
	long := strings.Repeat("x", 4096)
	for _, c := range []struct {
		what string
		text string
		l    []api.Edit
		want string
	}{
		{"no edits", "ab", nil, "ab"},
		{"an empty list", "ab", []api.Edit{}, "ab"},
		{"into the empty text", "", []api.Edit{ed(0, 0, "ab")}, "ab"},
		{"several edits, all at once", "abcd", []api.Edit{ed(0, 1, "xy"), ed(1, 1, "z"), ed(3, 4, "")}, "xyzbc"},
		{"inside a character", "\u20ac", []api.Edit{ed(1, 2, "")}, "\xe2\xac"},
		{"64 edits", "ab", slices.Repeat([]api.Edit{ed(1, 1, "x")}, 64), "a" + strings.Repeat("x", 64) + "b"},
		{"to 4096 bytes", "", []api.Edit{ed(0, 0, long)}, long},
		{"longer, then shorter", long, []api.Edit{ed(0, 0, long), ed(0, 4096, "")}, long},
	} {
		d := start(t, c.text, 4)
		if got, err := d.Edit(c.l); got != 5 || err != api.OK {
			t.Errorf("%s: Edit returns %d and the error %d", c.what, got, err)
		}
		isAt(t, c.what, d, c.want, 5)
		wasAt(t, d, 4, c.text)
		wasAt(t, d, 5, c.want)
		forgets(t, d, 3, 6)
		refuse(t, c.what+", then a change of the same version", d, put(5, "x"), api.ErrTwice)
		receive(t, c.what, d, change(6, across(0, 0, 0, 0, "")), 1, api.OK)
		if got, err := d.Edit(nil); got != 7 || err != api.OK {
			t.Errorf("%s: a second Edit returns %d and the error %d", c.what, got, err)
		}
		isAt(t, c.what, d, c.want, 7)
	}
}

func TestEditRefuses(t *testing.T) { // P5.7
	long := strings.Repeat("x", 4093) // 4097 bytes with the text
	many := slices.Repeat([]api.Edit{ed(0, 0, "")}, 65)
	for _, c := range []struct {
		what string
		l    []api.Edit
		want api.Errno
	}{
		{"no edits", nil, api.OK},
		{"a good edit", []api.Edit{ed(0, 1, "x")}, api.OK},
		{"65 edits", many, api.ErrLimit},
		{"65 edits, the first of which is negative", append([]api.Edit{ed(-1, 0, "")}, many[1:]...), api.ErrLimit},
		{"behind the text", []api.Edit{ed(3, 5, "x")}, api.ErrRange},
		{"negative", []api.Edit{ed(-1, 0, "x")}, api.ErrRange},
		{"To less than From", []api.Edit{ed(2, 1, "x")}, api.ErrRange},
		{"far away", []api.Edit{ed(math.MinInt, math.MaxInt, "x")}, api.ErrRange},
		{"overlapping", []api.Edit{ed(0, 2, "x"), ed(1, 3, "y")}, api.ErrArg},
		{"too long", []api.Edit{ed(4, 4, long)}, api.ErrLimit},
		{"too long in parts", []api.Edit{ed(0, 0, long[:2000]), ed(4, 4, long[2000:])}, api.ErrLimit},
		{"too long, and behind the text", []api.Edit{ed(0, 0, long), ed(3, 5, "x")}, api.ErrRange},
		{"too long, and overlapping", []api.Edit{ed(0, 2, long), ed(1, 3, "y")}, api.ErrArg},
	} {
		for _, held := range []bool{false, true} {
			d := start(t, "abcd", 4)
			want := c.want
			if held {
				receive(t, c.what, d, put(9, "x"), 0, api.OK)
				want = api.ErrState
			}
			if want == api.OK {
				continue
			}
			before := seen(d)
			if got, err := d.Edit(c.l); got != 0 || err != want {
				t.Errorf("%s, a change is held: %v: Edit returns %d and the error %d, want %d", c.what, held, got, err, want)
			}
			if after := seen(d); after != before {
				t.Errorf("%s: the refused Edit made\n%s\nof\n%s", c.what, after, before)
			}
		}
		d := start(t, "abcd", api.MaxInt)
		if got, err := d.Edit(c.l); got != 0 || err != api.ErrRange {
			t.Errorf("%s, at MaxInt: Edit returns %d and the error %d", c.what, got, err)
		}
		isAt(t, c.what, d, "abcd", api.MaxInt)
	}
}

func TestEditAgainAfterHeld(t *testing.T) { // P5.7
	d := start(t, "", 0)
	receive(t, "early", d, unfit(2), 0, api.OK)
	if got, err := d.Edit(nil); got != 0 || err != api.ErrState {
		t.Errorf("while a change is held, Edit returns %d and the error %d", got, err)
	}
	receive(t, "the missing one", d, put(1, "a"), 1, api.OK)
	if got, err := d.Edit([]api.Edit{ed(1, 1, "b")}); got != 2 || err != api.OK {
		t.Errorf("when none is held any more, Edit returns %d and the error %d", got, err)
	}
	isAt(t, "edited", d, "ab", 2)
}

func TestCopy(t *testing.T) { // P5.8
	for _, n := range []int{0, 1, 5, 15, 16, 17, 30} {
		one := grown(t, 0, n)
		for v := n + 2; v < n+10; v += 2 {
			receive(t, "before Copy", one, put(v, "h"), 0, api.OK)
		}
		two := one.Copy()
		before := seen(one)
		if got := seen(two); got != before {
			t.Errorf("the copy is\n%s\nof\n%s", got, before)
		}
		for _, both := range [][2]*Doc{{one.Copy(), two.Copy()}, {two.Copy(), one.Copy()}} {
			changed, other := both[0], both[1]
			receive(t, "one of both", changed, put(n+1, "1"), 2, api.OK)
			receive(t, "one of both", changed, put(n+5, "5"), 0, api.OK)
			receive(t, "one of both", changed, put(n+7, "7"), 0, api.OK)
			receive(t, "one of both", changed, put(n+3, "3"), 6, api.OK)
			if got := seen(other); got != before {
				t.Errorf("after changes of one, the other is\n%s\nof\n%s", got, before)
			}
			receive(t, "the other", other, put(n+1, "other"), 2, api.OK)
			isAt(t, "one of both", changed, "h7h5h3h1"+strings.Repeat("a", n), n+8)
			isAt(t, "the other", other, "hother"+strings.Repeat("a", n), n+2, n+4, n+6, n+8)
			wasAt(t, changed, n+1, "1"+strings.Repeat("a", n))
			wasAt(t, other, n+1, "other"+strings.Repeat("a", n))
			hasSince(t, "one of both", changed, n+1, ed(0, 0, "h7h5h3h"))
			hasSince(t, "the other", other, n+1, ed(0, 0, "h"))
		}
		if seen(one) != before || seen(two) != before {
			t.Errorf("after changes of their copies, the documents are\n%s\nand\n%s\nof\n%s", seen(one), seen(two), before)
		}
	}
}

func TestCopiesThatAreEdited(t *testing.T) { // P5.8
	for _, n := range []int{0, 3, 16, 20} {
		one := grown(t, 0, n)
		two := one.Copy()
		for i := range 20 {
			before := seen(two)
			one.Edit([]api.Edit{ed(0, 0, "b")})
			if got := seen(two); got != before {
				t.Fatalf("after %d edits of the document, the copy is\n%s\nof\n%s", i+1, got, before)
			}
			before = seen(one)
			two.Edit([]api.Edit{ed(i, i, "c")})
			if got := seen(one); got != before {
				t.Fatalf("after %d edits of the copy, the document is\n%s\nof\n%s", i+1, got, before)
			}
		}
		isAt(t, "the document", one, strings.Repeat("b", 20)+strings.Repeat("a", n), n+20)
		isAt(t, "the copy", two, strings.Repeat("c", 20)+strings.Repeat("a", n), n+20)
	}
}

// forOrders calls check with all orders of a list.
func forOrders(l []api.Change, check func(l []api.Change)) {
	var place func(n int)
	place = func(n int) {
		if n == len(l) {
			check(slices.Clone(l))
			return
		}
		for i := n; i < len(l); i++ {
			l[n], l[i] = l[i], l[n]
			place(n + 1)
			l[n], l[i] = l[i], l[n]
		}
	}
	place(0)
}

// receiveAll checks that each change is taken once, and that all of them are applied.
func receiveAll(t *testing.T, d *Doc, l []api.Change) {
	t.Helper()
	arrived := map[int]bool{}
	applied := 0
	for _, c := range l {
		n, err := d.Receive(c)
		if twice := arrived[c.Version]; twice != (err == api.ErrTwice) || !twice && err != api.OK {
			t.Fatalf("Receive of the change %d of %#v has the error %d", c.Version, l, err)
		}
		arrived[c.Version] = true
		applied += n
	}
	if applied != len(arrived) {
		t.Fatalf("of %d changes, %d are applied", len(arrived), applied)
	}
}

func TestOrdersOfArrival(t *testing.T) { // P5.9
	changes := []api.Change{
		change(4, on(0, 2, 2, "cd\ne")),
		change(5, on(0, 1, 1, smile), on(1, 0, 1, "")),
		change(6, across(0, 5, 1, 0, "f"), on(1, 0, 0, "g")),
		change(7),
		change(8, on(0, 3, 4, "h")),
	}
	const want = "a" + smile + "hcfg"
	inOrder := start(t, "ab", 3)
	receiveAll(t, inOrder, changes)
	isAt(t, "in order", inOrder, want, 8)
	forOrders(slices.Clone(changes), func(l []api.Change) {
		d := start(t, "ab", 3)
		receiveAll(t, d, l)
		if got := seen(d); got != seen(inOrder) {
			t.Fatalf("in the order %#v:\n%s\nwant\n%s", l, got, seen(inOrder))
		}
	})
	forOrders(slices.Concat(changes[:3], changes[:3]), func(l []api.Change) {
		d := start(t, "ab", 3)
		receiveAll(t, d, l)
		if d.Text() != "a"+smile+"bcfg" || d.Version() != 6 || len(d.Held()) > 0 {
			t.Fatalf("in the order %#v: %s", l, seen(d))
		}
	})
}

func TestOrdersOfSixteen(t *testing.T) { // P5.9
	w := newWriter(9)
	for range 100 {
		text := w.text(10)
		m := newModel(text, 100)
		var changes []api.Change
		for len(changes) < 16 {
			c := api.Change{Version: m.version + 1, Edits: inUnits(m.text(), w.edits(m.text(), 3))}
			if _, err := m.receive(c); err == api.OK {
				changes = append(changes, c)
			}
		}
		reversed := slices.Clone(changes)
		slices.Reverse(reversed)
		shuffled := slices.Concat(changes, changes[:w.IntN(16)], changes[w.IntN(16):])
		w.Shuffle(len(shuffled), func(i, j int) { shuffled[i], shuffled[j] = shuffled[j], shuffled[i] })
		for _, l := range [][]api.Change{changes, reversed, shuffled} {
			d := start(t, text, 100)
			receiveAll(t, d, l)
			pair{d, m}.check(t, "16 changes")
		}
	}
}

func TestChangesThatAreSentAgain(t *testing.T) { // P5.2, P5.3
	letter := func(v int) api.Change { return put(v, string(rune('a'+v))) }
	d := start(t, "", 0)
	for v := 20; v > 4; v-- {
		receive(t, "backwards", d, letter(v), 0, api.OK)
	}
	for v := 4; v > 1; v-- {
		refuse(t, "too many backwards", d, letter(v), api.ErrLimit)
	}
	receive(t, "the first one", d, letter(1), 1, api.OK)
	for v := 4; v > 2; v-- {
		refuse(t, "still too many", d, letter(v), api.ErrLimit)
	}
	receive(t, "the second one", d, letter(2), 1, api.OK)
	receive(t, "the third one", d, letter(3), 1, api.OK)
	receive(t, "the last one that was missing", d, letter(4), 17, api.OK)
	isAt(t, "all of them", d, "utsrqponmlkjihgfedcb", 20)
}

func TestArgumentsAreNotKept(t *testing.T) { // R4
	d := start(t, "", 0)
	now := []api.PosEdit{on(0, 0, 0, "a"), on(0, 0, 0, "b"), on(0, 0, 0, "guard")}
	early := []api.PosEdit{on(0, 0, 0, "c"), on(0, 2, 2, "d"), on(0, 0, 0, "guard")}
	bad := []api.PosEdit{on(0, 0, 0, "c"), on(7, 0, 0, "d"), on(0, 0, 0, "guard")}
	nowBefore, earlyBefore, badBefore := slices.Clone(now), slices.Clone(early), slices.Clone(bad)
	receive(t, "early", d, change(2, early[:2]...), 0, api.OK)
	clear(early)
	receive(t, "bad", d, change(1, bad[:2]...), 0, api.ErrRange)
	receive(t, "now", d, change(1, now[:2]...), 2, api.OK)
	if !slices.Equal(now, nowBefore) || !slices.Equal(bad, badBefore) {
		t.Errorf("Receive made %#v and %#v of the edits %#v and %#v", now, bad, nowBefore, badBefore)
	}
	clear(now)
	isAt(t, "received", d, "cabd", 2)
	hasSince(t, "received", d, 0, ed(0, 0, "cabd"))
	hasSince(t, "received", d, 1, ed(0, 0, "c"), ed(2, 2, "d"))

	early = slices.Clone(earlyBefore)
	receive(t, "early", d, change(4, early[:2]...), 0, api.OK)
	two := d.Copy()
	receive(t, "the missing one", d, change(3), 2, api.OK)
	receive(t, "the missing one of the copy", two, change(3), 2, api.OK)
	if !slices.Equal(early, earlyBefore) {
		t.Errorf("what was held became %#v of %#v", early, earlyBefore)
	}

	l := []api.Edit{ed(0, 1, "x"), ed(1, 1, "y"), ed(0, 0, "guard")}
	before := slices.Clone(l)
	if _, err := d.Edit(l[:2]); err != api.OK || !slices.Equal(l, before) {
		t.Errorf("Edit made %#v of %#v, with the error %d", l, before, err)
	}
	clear(l)
	hasSince(t, "edited", d, 4, ed(0, 1, "xy"))
}

func TestResultsAreNew(t *testing.T) { // R4
	d := start(t, "abcd", 0)
	receive(t, "one edit", d, change(1, on(0, 0, 1, "x"), on(0, 2, 3, "y")), 1, api.OK)
	receive(t, "early", d, put(3, "3"), 0, api.OK)
	receive(t, "early", d, put(5, "5"), 0, api.OK)
	before := seen(d)
	for range 2 {
		held := d.Held()
		clear(held[:cap(held)])
		for v := range 2 {
			l, _ := d.Since(v)
			clear(l[:cap(l)])
		}
		if got := seen(d); got != before {
			t.Errorf("after changes of results, one sees\n%s\nof\n%s", got, before)
		}
	}
	receive(t, "the missing one", d, put(2, "2"), 2, api.OK)
	isAt(t, "the missing one", d, "32xbyd", 3, 5)
}

func TestAskingChangesNothing(t *testing.T) { // R5
	d := grown(t, 0, 20)
	receive(t, "early", d, put(22, "x"), 0, api.OK)
	first := seen(d)
	d.Copy()
	if second := seen(d); second != first {
		t.Errorf("the second time one sees\n%s\nof\n%s", second, first)
	}
}

func TestEditsAndChangesTogether(t *testing.T) { // P5.6, P5.10
	d := start(t, "one\ntwo\n", 0)
	receive(t, "a change", d, change(1, on(1, 0, 3, "2")), 1, api.OK)
	if got, err := d.Edit([]api.Edit{ed(0, 3, "1"), ed(4, 5, "II")}); got != 2 || err != api.OK {
		t.Errorf("Edit returns %d and the error %d", got, err)
	}
	receive(t, "a change", d, change(3, on(1, 1, 1, "I")), 1, api.OK)
	isAt(t, "all", d, "1\nIII\n", 3)
	hasSince(t, "all", d, 0, ed(0, 3, "1"), ed(4, 7, "III"))
	for v, text := range []string{"one\ntwo\n", "one\n2\n", "1\nII\n", "1\nIII\n"} {
		wasAt(t, d, v, text)
		l, _ := d.Since(v)
		if got, err := edit.Apply(text, l); got != d.Text() || err != api.OK {
			t.Errorf("Since(%d) leads to %q with the error %d", v, got, err)
		}
	}
}

func TestExample(t *testing.T) {
	d := start(t, "ab", 3)
	receive(t, "the later change", d, change(5, on(0, 3, 3, "y")), 0, api.OK)
	isAt(t, "the later change", d, "ab", 3, 5)
	receive(t, "the earlier change", d, change(4, on(0, 1, 1, "x")), 2, api.OK)
	isAt(t, "both", d, "axby", 5)
	wasAt(t, d, 3, "ab")
	wasAt(t, d, 4, "axb")
	hasSince(t, "both", d, 3, ed(1, 1, "x"), ed(2, 2, "y"))
	hasSince(t, "both", d, 4, ed(3, 3, "y"))
	refuse(t, "the earlier change again", d, change(4, on(0, 1, 1, "x")), api.ErrTwice)
}
