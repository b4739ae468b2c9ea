package edit

import (
	"slices"
	"testing"

	"schemalens/api"
)

// A cell is a byte of a text; origin is its offset in the first text, or -1 if an
// edit inserted it.
type cell struct {
	b      byte
	origin int
}

func cells(s string) []cell {
	l := make([]cell, len(s))
	for i := range len(s) {
		l[i] = cell{s[i], i}
	}
	return l
}

// edited applies the edits one by one, the last one first, so that the offsets of
// those before it stay what they are.
func edited(c []cell, l []api.Edit) []cell {
	for _, e := range slices.Backward(l) {
		inserted := cells(e.Text)
		for i := range inserted {
			inserted[i].origin = -1
		}
		c = slices.Concat(c[:e.From], inserted, c[e.To:])
	}
	return c
}

func textOf(c []cell) string {
	var b []byte
	for _, x := range c {
		b = append(b, x.b)
	}
	return string(b)
}

// modelApply returns the text after edits that are valid.
func modelApply(s string, l []api.Edit) string {
	return textOf(edited(cells(s), l))
}

// modelValid checks all conditions of an edit for themselves.
func modelValid(s string, l []api.Edit) api.Errno {
	if len(l) > 64 {
		return api.ErrLimit
	}
	for i, e := range l {
		outside := e.From < 0 || e.To > len(s)
		backwards := e.To < e.From
		overlaps := i > 0 && e.From < l[i-1].To
		if outside || backwards {
			return api.ErrRange
		}
		if overlaps {
			return api.ErrArg
		}
	}
	return api.OK
}

// modelNormal follows the definition of the normal form.
func modelNormal(s string, l []api.Edit) []api.Edit {
	var normal []api.Edit
	for i := 0; i < len(l); {
		e := l[i]
		for i++; i < len(l) && l[i].From == l[i-1].To; i++ {
			e.Text += l[i].Text
			e.To = l[i].To
		}
		if e.Text != s[e.From:e.To] {
			normal = append(normal, e)
		}
	}
	return normal
}

// modelCompose walks over the bytes of the first and of the last text at once.
func modelCompose(s string, a, b []api.Edit) []api.Edit {
	last := edited(edited(cells(s), a), b)
	var l []api.Edit
	for i, j := 0, 0; i < len(s) || j < len(last); i, j = i+1, j+1 {
		e := api.Edit{From: i}
		for j < len(last) && last[j].origin < 0 {
			e.Text += textOf(last[j : j+1])
			j++
		}
		for i < len(s) && (j == len(last) || i < last[j].origin) {
			i++
		}
		e.To = i
		if e.To > e.From || e.Text != "" {
			l = append(l, e)
		}
	}
	return modelNormal(s, l)
}

// modelMap follows the definition of Map for a list that is valid at all.
func modelMap(l []api.Edit, offset int, after bool) int {
	d, inserted := 0, 0
	for _, e := range l {
		if e.To < offset || e.To == offset && e.From < e.To {
			d += len(e.Text)
			d -= e.To - e.From
		}
		if e.From == offset && e.To == offset {
			inserted += len(e.Text)
		}
	}
	for _, e := range l {
		if e.From < offset && e.To > offset {
			if after {
				return e.From + d + len(e.Text)
			}
			return e.From + d
		}
	}
	if after {
		return offset + d + inserted
	}
	return offset + d
}

// ed returns the edit of these fields.
func ed(from, to int, text string) api.Edit {
	return api.Edit{From: from, To: to, Text: text}
}

// forTexts calls check with all texts of at most n letters a and b.
func forTexts(n int, check func(s string)) {
	var grow func(s string)
	grow = func(s string) {
		check(s)
		if len(s) < n {
			grow(s + "a")
			grow(s + "b")
		}
	}
	grow("")
}

// forLists calls check with all lists of at most most edits with these Texts that
// are valid for a text of the given length.
func forLists(length, most int, texts []string, check func(l []api.Edit)) {
	var grow func(l []api.Edit, end int)
	grow = func(l []api.Edit, end int) {
		check(slices.Clone(l))
		if len(l) == most {
			return
		}
		for from := end; from <= length; from++ {
			for to := from; to <= length; to++ {
				for _, text := range texts {
					grow(append(slices.Clone(l), ed(from, to, text)), to)
				}
			}
		}
	}
	grow(nil, 0)
}

// A dice yields numbers that look random and are the same in each run.
type dice uint64

func (d *dice) below(n int) int {
	*d = *d*6364136223846793005 + 1442695040888963407
	return int(uint64(*d>>33) % uint64(n))
}

func (d *dice) text(most int) string {
	var b []byte
	for range d.below(most + 1) {
		b = append(b, "ab\n\xff\x80"[d.below(5)])
	}
	return string(b)
}

// list returns a valid list of at most most edits.
func (d *dice) list(s string, most int) []api.Edit {
	var ends []int
	n := d.below(most + 1)
	for range 2 * n {
		ends = append(ends, d.below(len(s)+1))
	}
	slices.Sort(ends)
	var l []api.Edit
	for i := range n {
		from, to := ends[2*i], ends[2*i+1]
		text := d.text(4)
		if d.below(4) == 0 {
			text = s[from:to]
		}
		l = append(l, ed(from, to, text))
	}
	return l
}

// forRandom calls check with longer texts and up to 64 edits of them.
func forRandom(check func(d *dice, s string, l []api.Edit)) {
	d := dice(4)
	for range 400 {
		s := d.text(300)
		check(&d, s, d.list(s, 4))
		check(&d, s, d.list(s, api.MaxEdits))
	}
}

// forMany calls check with all short texts and short lists, and with longer ones,
// until the test fails.
func forMany(t *testing.T, check func(s string, l []api.Edit)) {
	t.Helper()
	one := func(s string, l []api.Edit) {
		if !t.Failed() {
			check(s, l)
		}
	}
	forTexts(3, func(s string) {
		forLists(len(s), 2, []string{"", "a", "ab"}, func(l []api.Edit) { one(s, l) })
	})
	forTexts(2, func(s string) {
		forLists(len(s), 4, []string{"", "b"}, func(l []api.Edit) { one(s, l) })
	})
	forRandom(func(_ *dice, s string, l []api.Edit) { one(s, l) })
}

// forPairs calls check with lists a, and lists b that are valid after them, until
// the test fails.
func forPairs(t *testing.T, check func(s string, a, b []api.Edit)) {
	t.Helper()
	one := func(s string, a, b []api.Edit) {
		if !t.Failed() {
			check(s, a, b)
		}
	}
	forTexts(2, func(s string) {
		forLists(len(s), 2, []string{"", "a", "ba"}, func(a []api.Edit) {
			forLists(len(modelApply(s, a)), 2, []string{"", "b"}, func(b []api.Edit) { one(s, a, b) })
		})
	})
	forRandom(func(d *dice, s string, a []api.Edit) {
		after := modelApply(s, a)
		one(s, a, d.list(after, 3))
		one(s, a, d.list(after, api.MaxEdits))
	})
}

func checkEdits(t *testing.T, what string, got []api.Edit, err api.Errno, want []api.Edit) {
	t.Helper()
	if !slices.Equal(got, want) || err != api.OK {
		t.Errorf("%s: %#v and the error %d, want %#v", what, got, err, want)
	}
}

func checkRefused(t *testing.T, what string, got []api.Edit, err, want api.Errno) {
	t.Helper()
	if len(got) != 0 || err != want {
		t.Errorf("%s: %#v and the error %d, want nothing and %d", what, got, err, want)
	}
}
