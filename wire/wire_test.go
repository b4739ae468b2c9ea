package wire

import (
	"bytes"
	"math"
	"math/rand"
	"slices"
	"strings"
	"testing"

	"schemalens/api"
)

// A value of these tests is an int, a uint64, a bool, a string, a []byte or a
// []int; its type says which methods write and read it.

func write(w *Writer, v any) {
	switch x := v.(type) {
	case int:
		w.Int(x)
	case uint64:
		w.Uint(x)
	case bool:
		w.Bool(x)
	case string:
		w.Text(x)
	case []byte:
		w.Raw(x)
	case []int:
		w.Ints(x)
	default:
		panic("no value of these tests")
	}
}

// read reads a value of the type of v.
func read(r *Reader, v any) any {
	switch v.(type) {
	case int:
		return r.Int()
	case uint64:
		return r.Uint()
	case bool:
		return r.Bool()
	case string:
		return r.Text()
	case []byte:
		return r.Raw()
	case []int:
		return r.Ints()
	}
	panic("no value of these tests")
}

// same compares two values of one type; nil and empty slices are the same.
func same(a, b any) bool {
	switch x := a.(type) {
	case []byte:
		return bytes.Equal(x, b.([]byte))
	case []int:
		return slices.Equal(x, b.([]int))
	}
	return a == b
}

func encode(values ...any) []byte {
	var w Writer
	for _, v := range values {
		write(&w, v)
	}
	return w.Done()
}

// zeros contains the zero value of every type.
func zeros() []any {
	return []any{0, uint64(0), false, "", []byte(nil), []int(nil)}
}

type encoding struct {
	value any
	want  []byte
}

// encodings were written down by hand from the chapter's words.
func encodings() []encoding {
	return []encoding{
		{uint64(0), []byte{0}},
		{uint64(1), []byte{1}},
		{uint64(127), []byte{127}},
		{uint64(128), []byte{128, 1}},
		{uint64(129), []byte{129, 1}},
		{uint64(300), []byte{172, 2}},
		{uint64(1<<14 - 1), []byte{255, 127}},
		{uint64(1 << 14), []byte{128, 128, 1}},
		{uint64(1<<63 - 1), []byte{255, 255, 255, 255, 255, 255, 255, 255, 127}},
		{uint64(1 << 63), []byte{128, 128, 128, 128, 128, 128, 128, 128, 128, 1}},
		{uint64(math.MaxUint64), []byte{255, 255, 255, 255, 255, 255, 255, 255, 255, 1}},
		{0, []byte{0}},
		{-1, []byte{1}},
		{1, []byte{2}},
		{-2, []byte{3}},
		{63, []byte{126}},
		{-64, []byte{127}},
		{64, []byte{128, 1}},
		{-65, []byte{129, 1}},
		{150, []byte{172, 2}},
		{math.MaxInt, []byte{254, 255, 255, 255, 255, 255, 255, 255, 255, 1}},
		{math.MinInt, []byte{255, 255, 255, 255, 255, 255, 255, 255, 255, 1}},
		{false, []byte{0}},
		{true, []byte{1}},
		{"", []byte{0}},
		{"ab", []byte{2, 97, 98}},
		{"\x00\xff\xc3", []byte{3, 0, 255, 195}},
		{"\u00e9\U0001F600", []byte{6, 195, 169, 240, 159, 152, 128}},
		{strings.Repeat("x", 128), append([]byte{128, 1}, bytes.Repeat([]byte{120}, 128)...)},
		{[]byte(nil), []byte{0}},
		{[]byte{}, []byte{0}},
		{[]byte{0}, []byte{1, 0}},
		{[]byte{7, 128, 255}, []byte{3, 7, 128, 255}},
		{make([]byte, 300), append([]byte{172, 2}, make([]byte, 300)...)},
		{[]int(nil), []byte{0}},
		{[]int{}, []byte{0}},
		{[]int{0}, []byte{1, 0}},
		{[]int{3, -3, 64}, []byte{3, 6, 5, 128, 1}},
		{[]int{math.MinInt, math.MaxInt}, []byte{2,
			255, 255, 255, 255, 255, 255, 255, 255, 255, 1,
			254, 255, 255, 255, 255, 255, 255, 255, 255, 1}},
		{make([]int, 128), append([]byte{128, 1}, make([]byte, 128)...)},
	}
}

func TestWriterAppendsEncodings(t *testing.T) { // P2.1
	for _, c := range encodings() {
		if got := encode(c.value); !bytes.Equal(got, c.want) {
			t.Errorf("%#v: wrote %v, want %v", c.value, got, c.want)
		}
	}
}

func TestWriterAppendsOneAfterAnother(t *testing.T) { // P2.1
	var w Writer
	var want []byte
	if got := w.Done(); len(got) != 0 {
		t.Errorf("the zero Writer contains %v", got)
	}
	for _, c := range encodings() {
		write(&w, c.value)
		want = append(want, c.want...)
		if got := w.Done(); !bytes.Equal(got, want) {
			t.Fatalf("after %#v: %v, want %v", c.value, got, want)
		}
	}
}

func TestDoneReturnsNewMemory(t *testing.T) { // P2.1, R4
	for n := range 40 {
		var w Writer
		w.Raw(make([]byte, n))
		want := encode(make([]byte, n))
		first, second := w.Done(), w.Done()
		for i := range first[:cap(first)] {
			first[:cap(first)][i] = 77
		}
		if !bytes.Equal(second, want) || !bytes.Equal(w.Done(), want) {
			t.Fatalf("%d bytes: a change of a result of Done is seen elsewhere", n)
		}
		w.Uint(5)
		if !bytes.Equal(second, want) {
			t.Fatalf("%d bytes: a later value changes a result of Done", n)
		}
		if got := w.Done(); !bytes.Equal(got, append(want, 5)) {
			t.Fatalf("%d bytes: after a change of a result Done returns %v", n, got)
		}
	}
}

func TestWritersShareNothing(t *testing.T) { // P2.1, R5
	var a, b Writer
	for n := range 100 {
		a.Int(n)
		b.Int(-n)
	}
	if bytes.Equal(a.Done(), b.Done()) || a.Done()[1] != 2 || b.Done()[1] != 1 {
		t.Error("one writer sees the values of another one")
	}
}

func TestWriterKeepsNoArgument(t *testing.T) { // P2.1, R4
	b := []byte{1, 2, 3, 4, 5}
	l := []int{1, 2, 3, 4, 5}
	var w Writer
	w.Raw(b[:3])
	w.Ints(l[:2])
	w.Text("t")
	if !slices.Equal(b, []byte{1, 2, 3, 4, 5}) || !slices.Equal(l, []int{1, 2, 3, 4, 5}) {
		t.Errorf("arguments or the memory behind them changed: %v, %v", b, l)
	}
	b[0], l[0] = 9, 9
	if got, want := w.Done(), []byte{3, 1, 2, 3, 2, 2, 4, 1, 't'}; !bytes.Equal(got, want) {
		t.Errorf("after changes of arguments %v, want %v", got, want)
	}
}

func TestReadStartsWithoutError(t *testing.T) { // P2.2
	for _, b := range [][]byte{nil, {}} {
		if got := Read(b).End(); got != api.OK {
			t.Errorf("End of no bytes is %d", got)
		}
	}
	r := Read([]byte{1, 2, 3})
	if a, b, c := r.Uint(), r.Uint(), r.Uint(); a != 1 || b != 2 || c != 3 || r.End() != api.OK {
		t.Errorf("read %d, %d, %d, and End is %d", a, b, c, r.End())
	}
}

func TestReadKeepsNoArgument(t *testing.T) { // P2.2, R4
	b := []byte{2, 97, 98, 3, 1, 2, 3, 9, 9}
	r := Read(b[:7])
	copy(b, make([]byte, len(b)))
	if s := r.Text(); s != "ab" {
		t.Errorf("after a change of the bytes the text is %q", s)
	}
	b[4] = 55
	if l := r.Raw(); !slices.Equal(l, []byte{1, 2, 3}) || r.End() != api.OK {
		t.Errorf("after a change of the bytes the slice is %v, and End is %d", l, r.End())
	}

	b = []byte{1, 97, 4, 5, 128}
	r = Read(b[:3])
	for _, v := range zeros() {
		read(r, v)
	}
	if !slices.Equal(b, []byte{1, 97, 4, 5, 128}) {
		t.Errorf("reading changed the bytes or the memory behind them: %v", b)
	}
}

func TestReadersShareNothing(t *testing.T) { // P2.2, R5
	b := []byte{1, 2, 3}
	x, y := Read(b), Read(b)
	x.Ints()
	x.Raw()
	if n := y.Uint(); n != 1 || y.End() != api.ErrForm || x.End() != api.ErrMore {
		t.Error("one reader moves another one")
	}
}

func TestEndDoesNotRecordWhatIsLeft(t *testing.T) { // P2.2
	r := Read([]byte{1, 4, 0})
	for _, left := range []api.Errno{api.ErrForm, api.ErrForm} {
		if got := r.End(); got != left {
			t.Errorf("End with bytes left is %d", got)
		}
	}
	if !r.Bool() || r.End() != api.ErrForm || r.Int() != 2 || r.End() != api.ErrForm {
		t.Error("End has an effect on the values that are read after it")
	}
	if r.Text() != "" || r.End() != api.OK || r.End() != api.OK {
		t.Errorf("End of bytes that were all read is %d", r.End())
	}
}

// failure is a first value that cannot be read; first is the zero value of its
// type.
type failure struct {
	bytes []byte
	first any
	want  api.Errno
}

func failures() []failure {
	good := []byte{1, 1, 1, 1, 1, 1, 1, 1}
	return []failure{
		{nil, 0, api.ErrMore},
		{nil, uint64(0), api.ErrMore},
		{nil, false, api.ErrMore},
		{nil, "", api.ErrMore},
		{nil, []byte{}, api.ErrMore},
		{nil, []int{}, api.ErrMore},
		{append([]byte{128, 0}, good...), 0, api.ErrForm},
		{append([]byte{128, 0}, good...), uint64(0), api.ErrForm},
		{append([]byte{2}, good...), false, api.ErrForm},
		{append([]byte{9}, good...), "", api.ErrMore},
		{append([]byte{9}, good...), []byte{}, api.ErrMore},
		{append([]byte{9}, good...), []int{}, api.ErrMore},
		{append([]byte{128, 0}, good...), "", api.ErrForm},
		{append([]byte{128, 0}, good...), []byte{}, api.ErrForm},
		{append([]byte{128, 0}, good...), []int{}, api.ErrForm},
		{append([]byte{3, 1, 128, 0}, good...), []int{}, api.ErrForm},
		{append([]byte{9, 1}, bytes.Repeat([]byte{129}, 8)...), []int{}, api.ErrMore},
	}
}

func TestFirstErrorStays(t *testing.T) { // P2.2
	for _, c := range failures() {
		r := Read(c.bytes)
		if got := read(r, c.first); !same(got, c.first) || r.End() != c.want {
			t.Errorf("%T of %v: %#v and the error %d, want nothing and %d", c.first, c.bytes, got, r.End(), c.want)
		}
		for range 3 {
			for _, v := range zeros() {
				if got := read(r, v); !same(got, v) || r.End() != c.want {
					t.Errorf("%T of %v, then %T: %#v and the error %d", c.first, c.bytes, v, got, r.End())
				}
			}
		}
	}
}

func TestErrorAfterGoodValues(t *testing.T) { // P2.2
	r := Read([]byte{5, 1, 7, 200, 1, 1})
	if r.Int() != -3 || !r.Bool() || r.Bool() || r.End() != api.ErrForm {
		t.Errorf("the good values or the error of the bad one are wrong: %d", r.End())
	}
	if r.Uint() != 0 || len(r.Raw()) != 0 || r.End() != api.ErrForm {
		t.Error("reading goes on after an error")
	}
}

func TestUint(t *testing.T) { // P2.3
	nine := bytes.Repeat([]byte{128}, 9)
	full := bytes.Repeat([]byte{255}, 9)
	for _, c := range []struct {
		bytes []byte
		want  uint64
		err   api.Errno
	}{
		{[]byte{0}, 0, api.OK},
		{[]byte{127}, 127, api.OK},
		{[]byte{172, 2}, 300, api.OK},
		{[]byte{128, 128, 4}, 1 << 16, api.OK},
		{append(slices.Clone(nine), 1), 1 << 63, api.OK},
		{append(slices.Clone(full), 1), math.MaxUint64, api.OK},
		{full[:8], 0, api.ErrMore},
		{append(slices.Clone(full[:8]), 127), math.MaxInt64, api.OK},

		{nil, 0, api.ErrMore},
		{[]byte{128}, 0, api.ErrMore},
		{[]byte{255}, 0, api.ErrMore},
		{[]byte{128, 128}, 0, api.ErrMore},
		{nine, 0, api.ErrMore},
		{full, 0, api.ErrMore},

		{[]byte{128, 0}, 0, api.ErrForm},
		{[]byte{255, 0}, 0, api.ErrForm},
		{[]byte{128, 128, 0}, 0, api.ErrForm},
		{append(slices.Clone(nine[:8]), 0), 0, api.ErrForm},
		{append(slices.Clone(nine), 0), 0, api.ErrForm},
		{append(slices.Clone(nine), 2), 0, api.ErrForm},
		{append(slices.Clone(full), 3), 0, api.ErrForm},
		{append(slices.Clone(full), 127), 0, api.ErrForm},
		{append(slices.Clone(nine), 128), 0, api.ErrForm},
		{append(slices.Clone(nine), 129), 0, api.ErrForm},
		{append(slices.Clone(full), 255), 0, api.ErrForm},
		{append(slices.Clone(nine), 129, 1), 0, api.ErrForm},
		{append(slices.Clone(full), 255, 0), 0, api.ErrForm},
	} {
		r := Read(c.bytes)
		if got := r.Uint(); got != c.want || r.End() != c.err {
			t.Errorf("Uint of %v: %d and the error %d, want %d and %d", c.bytes, got, r.End(), c.want, c.err)
		}
	}
}

func TestUintMovesBehindIt(t *testing.T) { // P2.2, P2.3
	r := Read([]byte{0, 0, 172, 2, 128, 128, 1, 5})
	for _, want := range []uint64{0, 0, 300, 1 << 14, 5} {
		if got := r.Uint(); got != want {
			t.Errorf("Uint is %d, want %d", got, want)
		}
	}
	if r.End() != api.OK {
		t.Errorf("End is %d", r.End())
	}
}

func TestInt(t *testing.T) { // P2.4
	full := bytes.Repeat([]byte{255}, 9)
	for _, c := range []struct {
		bytes []byte
		want  int
		err   api.Errno
	}{
		{[]byte{0}, 0, api.OK},
		{[]byte{1}, -1, api.OK},
		{[]byte{2}, 1, api.OK},
		{[]byte{127}, -64, api.OK},
		{[]byte{128, 1}, 64, api.OK},
		{[]byte{254, 255, 255, 255, 255, 255, 255, 255, 255, 1}, math.MaxInt, api.OK},
		{append(slices.Clone(full), 1), math.MinInt, api.OK},
		{append(slices.Clone(full[:8]), 127), -1 << 62, api.OK},
		{nil, 0, api.ErrMore},
		{[]byte{129}, 0, api.ErrMore},
		{full, 0, api.ErrMore},
		{[]byte{128, 0}, 0, api.ErrForm},
		{[]byte{129, 0}, 0, api.ErrForm},
		{append(slices.Clone(full), 2), 0, api.ErrForm},
		{append(slices.Clone(full), 129), 0, api.ErrForm},
	} {
		r := Read(c.bytes)
		if got := r.Int(); got != c.want || r.End() != c.err {
			t.Errorf("Int of %v: %d and the error %d, want %d and %d", c.bytes, got, r.End(), c.want, c.err)
		}
	}
}

func TestBool(t *testing.T) { // P2.4
	for c := range 256 {
		r := Read([]byte{byte(c)})
		want := api.OK
		if c > 1 {
			want = api.ErrForm
		}
		if got := r.Bool(); got != (c == 1) || r.End() != want {
			t.Errorf("Bool of %d: %t and the error %d", c, got, r.End())
		}
	}
	r := Read([]byte{1, 0, 1})
	if !r.Bool() || r.Bool() || !r.Bool() || r.End() != api.OK || r.Bool() || r.End() != api.ErrMore {
		t.Error("Bool does not read one byte each")
	}
}

func TestTextRawAndInts(t *testing.T) { // P2.5
	long := varint(math.MaxUint64)
	for _, c := range []struct {
		bytes []byte
		value any
		err   api.Errno
	}{
		{[]byte{0}, "", api.OK},
		{[]byte{0}, []byte{}, api.OK},
		{[]byte{0}, []int{}, api.OK},
		{[]byte{2, 97, 98}, "ab", api.OK},
		{[]byte{2, 255, 0}, "\xff\x00", api.OK},
		{[]byte{2, 255, 0}, []byte{255, 0}, api.OK},
		{[]byte{2, 3, 172, 2}, []int{-2, 150}, api.OK},

		{[]byte{1}, "", api.ErrMore},
		{[]byte{3, 97, 98}, "", api.ErrMore},
		{[]byte{3, 97, 98}, []byte{}, api.ErrMore},
		{[]byte{3, 2, 2}, []int{}, api.ErrMore},
		{[]byte{3, 128, 0}, []int{}, api.ErrMore}, // the length comes first
		{[]byte{128}, "", api.ErrMore},
		{append(long, 1, 2), "", api.ErrMore},
		{append(long, 1, 2), []byte{}, api.ErrMore},
		{append(long, 1, 2), []int{}, api.ErrMore},
		{append(varint(1<<63), 1), []byte{}, api.ErrMore},
		{append(varint(1<<40), 1), []int{}, api.ErrMore},
		{[]byte{2, 2, 128}, []int{}, api.ErrMore},
		{[]byte{2, 128, 1}, []int{}, api.ErrMore},

		{[]byte{130, 0, 97, 98}, "", api.ErrForm},
		{[]byte{130, 0, 97, 98}, []byte{}, api.ErrForm},
		{[]byte{130, 0, 97, 98}, []int{}, api.ErrForm},
		{[]byte{3, 2, 128, 0}, []int{}, api.ErrForm},
		{[]byte{3, 128, 0, 128}, []int{}, api.ErrForm},
		{[]byte{1, 255, 255, 255, 255, 255, 255, 255, 255, 255, 2}, []int{}, api.ErrForm},

		{[]byte{1, 97, 98}, "a", api.ErrForm}, // a byte is left at End
		{[]byte{0, 0}, []byte{}, api.ErrForm},
		{[]byte{1, 2, 4}, []int{1}, api.ErrForm},
	} {
		r := Read(c.bytes)
		if got := read(r, c.value); !same(got, c.value) || r.End() != c.err {
			t.Errorf("%T of %v: %#v and the error %d, want %#v and %d", c.value, c.bytes, got, r.End(), c.value, c.err)
		}
	}
}

// varint returns the varint of n, with no spare capacity.
func varint(n uint64) []byte {
	return slices.Clip(encode(n))
}

func TestRawReturnsNewMemory(t *testing.T) { // P2.5, R4
	b := encode([]byte{1, 2, 3}, []byte{4, 5, 6}, "text", []byte{7})
	r := Read(b)
	first := r.Raw()
	first = append(first, 99, 99, 99, 99)
	first[0] = 50
	second := r.Raw()
	if !slices.Equal(second, []byte{4, 5, 6}) {
		t.Errorf("a change of one slice changes what is read next: %v", second)
	}
	second[0] = 60
	if r.Text() != "text" || !slices.Equal(r.Raw(), []byte{7}) || r.End() != api.OK {
		t.Error("a change of a slice changes what is read next")
	}
	if !slices.Equal(first, []byte{50, 2, 3, 99, 99, 99, 99}) || !slices.Equal(b, encode([]byte{1, 2, 3}, []byte{4, 5, 6}, "text", []byte{7})) {
		t.Error("slices share memory with each other or with the bytes that are read")
	}
}

func TestIntsReturnsNewMemory(t *testing.T) { // P2.5, R4
	r := Read(encode([]int{1, 2}, []int{3, 4}))
	first := r.Ints()
	first = append(first, 9)
	second := r.Ints()
	if !slices.Equal(second, []int{3, 4}) || !slices.Equal(first, []int{1, 2, 9}) {
		t.Errorf("two lists share memory: %v and %v", first, second)
	}
}

// someValues returns values of all types, near the bounds more often than elsewhere.
func someValues(source *rand.Rand, n int) []any {
	number := func() uint64 { return source.Uint64() >> source.Intn(64) }
	var l []any
	for range n {
		switch source.Intn(7) {
		case 0:
			l = append(l, int(number()))
		case 1:
			l = append(l, -int(number()))
		case 2:
			l = append(l, number())
		case 3:
			l = append(l, source.Intn(2) == 0)
		case 4:
			l = append(l, strings.Repeat(string(rune(source.Intn(5000))), source.Intn(90)))
		case 5:
			b := make([]byte, source.Intn(200))
			source.Read(b)
			l = append(l, b)
		case 6:
			ints := make([]int, source.Intn(200))
			for i := range ints {
				ints[i] = int(number()) * (1 - 2*source.Intn(2))
			}
			l = append(l, ints)
		}
	}
	return l
}

func checkRoundTrip(t *testing.T, values []any) {
	t.Helper()
	r := Read(encode(values...))
	for _, v := range values {
		if got := read(r, v); !same(got, v) {
			t.Errorf("wrote %#v, and read %#v", v, got)
		}
	}
	if got := r.End(); got != api.OK {
		t.Errorf("End of %#v is %d", values, got)
	}
}

func TestRoundTrip(t *testing.T) { // P2.6
	checkRoundTrip(t, nil)
	var all []any
	for _, c := range encodings() {
		checkRoundTrip(t, []any{c.value})
		all = append(all, c.value)
	}
	checkRoundTrip(t, all)
	source := rand.New(rand.NewSource(1))
	for n := range 300 {
		checkRoundTrip(t, someValues(source, n%12))
	}
}

func TestRoundTripOfNumbers(t *testing.T) { // P2.6
	for i := range 64 {
		for d := -300; d <= 300; d++ {
			n := uint64(1)<<i + uint64(d)
			checkRoundTrip(t, []any{n, int(n), -int(n)})
		}
	}
}

// checkOneEncoding reads values of the types of these from b and, if this
// succeeds, compares their encoding with b; it reports whether it succeeds.
func checkOneEncoding(t *testing.T, b []byte, like ...any) bool {
	t.Helper()
	r := Read(b)
	var got []any
	for _, v := range like {
		got = append(got, read(r, v))
	}
	if r.End() != api.OK {
		return false
	}
	if again := encode(got...); !bytes.Equal(again, b) {
		t.Errorf("%v is read as %#v, the encoding of which is %v", b, got, again)
	}
	return true
}

func TestOneEncoding(t *testing.T) { // P2.7
	kinds := zeros()
	accepted := make([]int, len(kinds))
	check := func(b []byte) {
		for i, v := range kinds {
			if checkOneEncoding(t, b, v) {
				accepted[i]++
			}
		}
		checkOneEncoding(t, b, kinds[0], kinds[5])
		checkOneEncoding(t, b, kinds[2], kinds[3], kinds[1])
	}
	check(nil)
	for x := range 256 {
		check([]byte{byte(x)})
		for y := range 256 {
			check([]byte{byte(x), byte(y)})
		}
	}
	// A number of two bytes begins with one of 128 to 255 and ends with one of 1
	// to 127.
	numbers := 128 + 128*127
	want := []int{numbers, numbers, 2, 1 + 256, 1 + 256, 1 + 128}
	if !slices.Equal(accepted, want) {
		t.Errorf("so many sequences are accepted: %v, want %v", accepted, want)
	}
}

func TestOneEncodingOfLongVarints(t *testing.T) { // P2.7
	near := []byte{0, 1, 2, 127, 128, 129, 255}
	for size := 3; size <= 12; size++ {
		b := bytes.Repeat([]byte{128}, size)
		for _, first := range near {
			for _, beforeLast := range near {
				for _, last := range near {
					b[0], b[size-2], b[size-1] = first, beforeLast, last
					for _, v := range zeros() {
						checkOneEncoding(t, b, v)
					}
				}
			}
		}
	}
}

func TestOneEncodingOfChangedBytes(t *testing.T) { // P2.7
	source := rand.New(rand.NewSource(2))
	for range 3000 {
		values := someValues(source, 3)
		b := encode(values...)
		b[source.Intn(len(b))] = byte(source.Intn(256))
		checkOneEncoding(t, b, values...)
	}
}

func TestPrefixes(t *testing.T) { // P2.8
	source := rand.New(rand.NewSource(3))
	sequences := [][]any{{true, "ab", -1}, {[]int{300, -300}}, {"", []byte{}, []int{}}}
	for _, c := range encodings() {
		sequences = append(sequences, []any{c.value}, []any{c.value, c.value})
	}
	for n := range 60 {
		sequences = append(sequences, someValues(source, 1+n%5))
	}
	for _, values := range sequences {
		b := encode(values...)
		for n := range b {
			r := Read(b[:n])
			for _, v := range values {
				read(r, v)
			}
			if got := r.End(); got != api.ErrMore {
				t.Errorf("%d of the %d bytes of %#v: the error %d", n, len(b), values, got)
			}
		}
	}
}

func TestVarintSize(t *testing.T) { // P2.8
	for bits := 1; bits <= 64; bits++ {
		least, greatest := uint64(1)<<(bits-1), uint64(math.MaxUint64)>>(64-bits)
		want := (bits + 6) / 7
		for _, n := range []uint64{least, greatest} {
			if got := len(encode(n)); got != want {
				t.Errorf("the varint of %d has %d bytes, want %d", n, got, want)
			}
		}
	}
	if got := len(encode(uint64(0))); got != 1 {
		t.Errorf("the varint of 0 has %d bytes", got)
	}
}

func TestExamples(t *testing.T) {
	if got := encode(uint64(300)); !bytes.Equal(got, []byte{172, 2}) {
		t.Errorf("Uint(300) appends %v", got)
	}
	if got := encode(-1); !bytes.Equal(got, []byte{1}) {
		t.Errorf("Int(-1) appends %v", got)
	}
	if got := encode("ab"); !bytes.Equal(got, []byte{2, 97, 98}) {
		t.Errorf("Text(%q) appends %v", "ab", got)
	}
	r := Read([]byte{128, 0})
	if n := r.Int(); n != 0 || r.End() != api.ErrForm {
		t.Errorf("128, 0 is read as %d with the error %d", n, r.End())
	}
}
