package hash

import (
	"bytes"
	"math"
	"slices"
	"strings"
	"testing"
)

// The numbers of these tables were computed by a program of its own from the
// formulas of P1.1 and P1.2.

func TestSumValues(t *testing.T) { // P1.1
	for _, c := range []struct {
		label string
		words []int
		want  uint64
	}{
		{"", nil, 0},
		{"a", nil, 0x80b5f6f3a21f8298},
		{"a", []int{0}, 0xaeccc2c435d70264},
		{"a", []int{5}, 0xdbbe367e93b58544},
		{"a", []int{6}, 0x49fc8178b938ecaf},
		{"a", []int{-1}, 0x9ee594d249f2a64},
		{"a", []int{math.MinInt, math.MaxInt}, 0xd44abd7a8ac43800},
		{"a", []int{1, 2, 3}, 0x2928cf4a8a2b11de},
		{"abcdefgh", []int{7}, 0x5089a87623d9d956},
		{"abcdefghi", []int{7}, 0x7f2eaf872821c6b3},
		{"\u00e9\x00\U0001F600", []int{-5, 0}, 0x78d03faed286384a},
	} {
		if got := Sum(c.label, c.words...); got != c.want {
			t.Errorf("Sum(%q, %v) = %#x, want %#x", c.label, c.words, got, c.want)
		}
	}
}

func TestBytesValues(t *testing.T) { // P1.2
	for _, c := range []struct {
		label string
		b     []byte
		want  uint64
	}{
		{"a", nil, 0xaeccc2c435d70264},
		{"a", []byte{}, 0xaeccc2c435d70264},
		{"a", []byte{1, 2}, 0x5cd85cbd93fd0838},
		{"", []byte{0}, 0xb3ddd3bc67c5a6e7},
		{"journal", []byte{0, 1, 7}, 0xcdc5bb41ccb41d36},
		{"b", []byte{1, 2, 3, 4, 5, 6, 7, 8}, 0xd0113611431058c1},
		{"b", bytes.Repeat([]byte{255}, 8), 0x819aa97f56c9a611},
		{"b", upTo(19), 0xf3270ce67b01bdbd},
	} {
		if got := Bytes(c.label, c.b); got != c.want {
			t.Errorf("Bytes(%q, %v) = %#x, want %#x", c.label, c.b, got, c.want)
		}
	}
}

func TestBytesIsSumOfWords(t *testing.T) { // P1.2
	for _, c := range []struct {
		b     []byte
		words []int
	}{
		{nil, []int{0}},
		{[]byte{0}, []int{0, 1}},
		{[]byte{1, 2}, []int{513, 2}},
		{[]byte{0, 0, 0, 0, 0, 0, 1}, []int{1 << 48, 7}},
		{bytes.Repeat([]byte{255}, 8), []int{-1, 8}},
		{[]byte{0, 0, 0, 0, 0, 0, 0, 128}, []int{math.MinInt, 8}},
		{upTo(9), []int{0x0807060504030201, 9, 9}},
		{upTo(16), []int{0x0807060504030201, 0x100f0e0d0c0b0a09, 16}},
		{upTo(18), []int{0x0807060504030201, 0x100f0e0d0c0b0a09, 0x1211, 18}},
	} {
		for _, label := range []string{"", "x", "a longer label"} {
			if Bytes(label, c.b) != Sum(label, c.words...) {
				t.Errorf("Bytes(%q, %v) is not the sum of %v", label, c.b, c.words)
			}
		}
	}
}

func TestPairValues(t *testing.T) { // P1.2
	for _, c := range []struct{ a, b, want uint64 }{
		{0, 0, 0xa37203a6cd944451},
		{1, 2, 0xd5e6a2a3a39a5df8},
		{2, 1, 0x9a705c9df9b46602},
		{math.MaxUint64, 1 << 63, 0x1406334980e31f52},
	} {
		if got := Pair(c.a, c.b); got != c.want {
			t.Errorf("Pair(%d, %d) = %#x, want %#x", c.a, c.b, got, c.want)
		}
		if Pair(c.a, c.b) != Sum("pair", int(c.a), int(c.b)) {
			t.Errorf("Pair(%d, %d) is not the sum of a pair", c.a, c.b)
		}
	}
}

// allDiffer reports hashes that occur twice.
func allDiffer(t *testing.T, what string, hashes []uint64) {
	t.Helper()
	sorted := slices.Sorted(slices.Values(hashes))
	if len(slices.Compact(sorted)) != len(hashes) {
		t.Errorf("%s: a hash occurs twice", what)
	}
}

func TestSumDiffersInOneElement(t *testing.T) { // P1.3
	for n := 1; n <= 5; n++ {
		for i := range n {
			words := make([]int, n)
			var hashes []uint64
			for _, w := range oneWord() {
				words[i] = w
				hashes = append(hashes, Sum("n", words...))
			}
			allDiffer(t, "Sum", hashes)
		}
	}
}

func TestBytesDiffersInOneGroup(t *testing.T) { // P1.3
	for n := 1; n <= 25; n++ {
		for from := 0; from < n; from += 8 {
			var hashes []uint64
			for i := from; i < min(from+8, n); i++ {
				b := upTo(n)
				for c := range 256 {
					if b[i] = byte(c); c != i+1 {
						hashes = append(hashes, Bytes("b", b))
					}
				}
			}
			allDiffer(t, "Bytes", append(hashes, Bytes("b", upTo(n))))
		}
	}
}

func TestLabelsDifferInOneGroup(t *testing.T) { // P1.3
	for n := 1; n <= 17; n++ {
		for from := 0; from < n; from += 8 {
			hashes := []uint64{Sum(strings.Repeat("a", n), 1, 2)}
			for i := from; i < min(from+8, n); i++ {
				for _, c := range []byte{0, 'b', 'A', 128, 255} {
					label := []byte(strings.Repeat("a", n))
					label[i] = c
					hashes = append(hashes, Sum(string(label), 1, 2))
				}
			}
			allDiffer(t, "labels", hashes)
		}
	}
}

func TestPairIsInjective(t *testing.T) { // P1.4
	for _, fixed := range []uint64{0, 1, 7, 1 << 63, math.MaxUint64} {
		var first, second []uint64
		for _, w := range oneWord() {
			first = append(first, Pair(uint64(w), fixed))
			second = append(second, Pair(fixed, uint64(w)))
		}
		allDiffer(t, "first argument of Pair", first)
		allDiffer(t, "second argument of Pair", second)
	}
}

func TestExamples(t *testing.T) {
	if Sum("a", 5) == Sum("a", 6) {
		t.Error("Sum does not tell 5 from 6")
	}
	if Bytes("a", []byte{1, 2}) != Sum("a", 513, 2) {
		t.Error("the bytes 1 and 2 are not the word 513")
	}
}

func TestArgumentsStayAsTheyAre(t *testing.T) { // R4
	words := []int{1, -2, 3, 77, 78}
	Sum("a", words[:3]...)
	if !slices.Equal(words, []int{1, -2, 3, 77, 78}) {
		t.Errorf("Sum changed its words or the memory behind them: %v", words)
	}
	b := upTo(20)
	for n := range 20 {
		Bytes("a", b[:n])
		if !slices.Equal(b, upTo(20)) {
			t.Fatalf("Bytes changed its bytes or the memory behind them: %v", b)
		}
	}
}

func TestResultsDependOnArgumentsOnly(t *testing.T) { // R4, R5
	if Sum("a") != Sum("a", []int{}...) || Bytes("a", nil) != Bytes("a", []byte{}) {
		t.Error("nil and empty slices have different hashes")
	}
	spare := append(make([]byte, 0, 64), upTo(11)...)
	if Bytes("a", spare) != Bytes("a", upTo(11)) {
		t.Error("the hash depends on the capacity")
	}
	if Sum("a", 1, 2) != Sum("a", 1, 2) {
		t.Error("two calls differ")
	}
}

func TestWordsCanBeYieldedInPartAndAgain(t *testing.T) {
	words := wordsOf(upTo(18))
	for w := range words {
		if w != 0x0807060504030201 {
			t.Errorf("first word %#x", w)
		}
		break
	}
	want := []uint64{0x0807060504030201, 0x100f0e0d0c0b0a09, 0x1211}
	if got := slices.Collect(words); !slices.Equal(got, want) {
		t.Errorf("words %#x, want %#x", got, want)
	}
}

// upTo returns the bytes 1, .., n.
func upTo(n int) []byte {
	b := make([]byte, n)
	for i := range b {
		b[i] = byte(i + 1)
	}
	return b
}

// oneWord returns different ints, among them those with one bit, those without
// one bit and small ones of both signs.
func oneWord() []int {
	l := []int{0, -1}
	for i := range 64 {
		l = append(l, 1<<i, ^(1 << i))
	}
	for n := 3; n < 200; n++ {
		l = append(l, n, -n)
	}
	slices.Sort(l)
	return slices.Compact(l)
}
