package document

import (
	"fmt"
	"math/rand/v2"
	"slices"
	"strings"
	"testing"

	"schemalens/api"
	"schemalens/edit"
	"schemalens/position"
)

// A model is a document that keeps everything that it ever had, and follows the
// definitions of the chapter.
type model struct {
	first, version int
	texts          map[int]string
	lists          map[int][]api.Edit // the edits of the versions
	held           []api.Change
}

func newModel(text string, version int) *model {
	return &model{version, version, map[int]string{version: text}, map[int][]api.Edit{}, nil}
}

func (m *model) copied() *model {
	c := *m
	c.texts, c.lists = map[int]string{}, map[int][]api.Edit{}
	for v := m.first; v <= m.version; v++ {
		c.texts[v], c.lists[v] = m.texts[v], m.lists[v]
	}
	c.held = slices.Clone(m.held)
	return &c
}

func (m *model) text() string { return m.texts[m.version] }

// waiting returns the index of the held change with this Version, or -1.
func (m *model) waiting(version int) int {
	return slices.IndexFunc(m.held, func(c api.Change) bool { return c.Version == version })
}

// fits returns the error for which edits do not fit the text.
func (m *model) fits(l []api.Edit) api.Errno {
	after, err := edit.Apply(m.text(), l)
	if err == api.OK && len(after) > 4096 {
		return api.ErrLimit
	}
	return err
}

// become makes the next version by edits that fit.
func (m *model) become(l []api.Edit) {
	after, _ := edit.Apply(m.text(), l)
	m.version++
	m.texts[m.version] = after
	m.lists[m.version] = l
}

func (m *model) apply(c api.Change) api.Errno {
	l, err := position.Bytes(m.text(), c.Edits)
	if err != api.OK {
		return err
	}
	if err := m.fits(l); err != api.OK {
		return err
	}
	m.become(l)
	return api.OK
}

func (m *model) receive(c api.Change) (int, api.Errno) {
	switch {
	case c.Version <= 0 || c.Version >= 1<<40+1:
		return 0, api.ErrArg
	case len(c.Edits) >= 65:
		return 0, api.ErrLimit
	case c.Version <= m.version || m.waiting(c.Version) >= 0:
		return 0, api.ErrTwice
	case c.Version >= m.version+2 && len(m.held) == 16:
		return 0, api.ErrLimit
	case c.Version >= m.version+2:
		m.held = append(m.held, c)
		return 0, api.OK
	}
	if err := m.apply(c); err != api.OK {
		return 0, err
	}
	before := m.version - 1
	for i := m.waiting(m.version + 1); i >= 0; i = m.waiting(m.version + 1) {
		next := m.held[i]
		m.held = slices.Concat(m.held[:i], m.held[i+1:])
		m.apply(next)
	}
	return m.version - before, api.OK
}

func (m *model) edit(l []api.Edit) (int, api.Errno) {
	if len(m.held) > 0 {
		return 0, api.ErrState
	}
	if m.version == 1<<40 {
		return 0, api.ErrRange
	}
	if err := m.fits(l); err != api.OK {
		return 0, err
	}
	m.become(l)
	return m.version, api.OK
}

func (m *model) versions() []int {
	var l []int
	for _, c := range m.held {
		l = append(l, c.Version)
	}
	slices.Sort(l)
	return l
}

func (m *model) remembers(version int) bool {
	return m.first <= version && m.version-16 <= version && version <= m.version
}

func (m *model) at(version int) (string, api.Errno) {
	if !m.remembers(version) {
		return "", api.ErrNone
	}
	return m.texts[version], api.OK
}

func (m *model) since(version int) ([]api.Edit, api.Errno) {
	if !m.remembers(version) {
		return nil, api.ErrNone
	}
	t := m.texts[version]
	var x []api.Edit
	for v := version + 1; v <= m.version; v++ {
		var err api.Errno
		if x, err = edit.Compose(t, x, m.lists[v]); err != api.OK {
			return edit.Diff(t, m.text()), api.OK
		}
	}
	return x, api.OK
}

// sight is what can be seen of a document or of a model, as a text. An empty list
// of edits looks like nil.
func sight(text string, version int, held []int, at func(int) (string, api.Errno), since func(int) ([]api.Edit, api.Errno)) string {
	var b strings.Builder
	fmt.Fprintf(&b, "version %d: %q, held %v\n", version, text, held)
	for v := version - 18; v <= version+2; v++ {
		old, err1 := at(v)
		l, err2 := since(v)
		fmt.Fprintf(&b, "%d: %q, error %d, edits %#v, error %d\n", v, old, err1, append([]api.Edit(nil), l...), err2)
	}
	return b.String()
}

func seen(d *Doc) string {
	return sight(d.Text(), d.Version(), d.Held(), d.At, d.Since)
}

func seenOfModel(m *model) string {
	return sight(m.text(), m.version, m.versions(), m.at, m.since)
}

// A pair is a document and its model.
type pair struct {
	d *Doc
	m *model
}

func (p pair) check(t *testing.T, what string) {
	t.Helper()
	if got, want := seen(p.d), seenOfModel(p.m); got != want {
		t.Fatalf("after %s one sees\n%s\nwant\n%s", what, got, want)
	}
}

// checkBack checks that Since leads from each remembered text to the last one.
func checkBack(t *testing.T, d *Doc) {
	t.Helper()
	for v := d.Version() - 18; v <= d.Version(); v++ {
		old, err := d.At(v)
		if err != api.OK {
			continue
		}
		l, _ := d.Since(v)
		if got, err := edit.Apply(old, l); got != d.Text() || err != api.OK {
			t.Fatalf("Since(%d) leads from %q to %q with the error %d, want %q", v, old, got, err, d.Text())
		}
	}
}

// A writer makes up texts and changes. They look random and are the same in each run.
type writer struct{ *rand.Rand }

func newWriter(seed uint64) writer { return writer{rand.New(rand.NewPCG(5, seed))} }

func (w writer) text(most int) string {
	pieces := []string{"a", "b", "\n", "\u20ac", "\U0001f600", "\xff"}
	var b strings.Builder
	for range w.IntN(most + 1) {
		b.WriteString(pieces[w.IntN(len(pieces))])
	}
	return b.String()
}

// edits returns at most most edits that are valid for s and begin and end between
// characters.
func (w writer) edits(s string, most int) []api.Edit {
	starts := []int{len(s)}
	for i := range s {
		starts = append(starts, i)
	}
	n := w.IntN(most + 1)
	var ends []int
	for range 2 * n {
		ends = append(ends, starts[w.IntN(len(starts))])
	}
	slices.Sort(ends)
	var l []api.Edit
	for i := range n {
		l = append(l, api.Edit{From: ends[2*i], To: ends[2*i+1], Text: w.text(4)})
	}
	if n > 1 && w.IntN(20) == 0 {
		l[0], l[n-1] = l[n-1], l[0]
	}
	return l
}

// inUnits returns the same edits by positions.
func inUnits(s string, l []api.Edit) []api.PosEdit {
	var p []api.PosEdit
	for _, e := range l {
		start, _ := position.At(s, e.From)
		end, _ := position.At(s, e.To)
		p = append(p, api.PosEdit{Start: start, End: end, Text: e.Text})
	}
	return p
}

// change returns a change that fits the text in most cases, with a Version that is
// often the next one.
func (w writer) change(m *model, most int) api.Change {
	version := m.version + 1
	switch w.IntN(12) {
	case 0:
		version += w.IntN(30) - 10
	case 1, 2, 3, 4:
		version += 1 + w.IntN(3)
	case 5:
		if len(m.held) > 0 {
			version = m.held[0].Version
		}
	}
	l := inUnits(m.text(), w.edits(m.text(), most))
	if len(l) > 0 && w.IntN(20) == 0 {
		l[w.IntN(len(l))].End.Unit += w.IntN(9) - 4
	}
	return api.Change{Version: version, Edits: l}
}

// step calls a method of both, and returns what it did.
func (w writer) step(t *testing.T, p pair, most int) string {
	t.Helper()
	var got, want int
	var err, wantErr api.Errno
	what := ""
	if w.IntN(5) == 0 {
		l := w.edits(p.m.text(), most)
		what = fmt.Sprintf("Edit(%#v)", l)
		got, err = p.d.Edit(l)
		want, wantErr = p.m.edit(l)
	} else {
		c := w.change(p.m, most)
		what = fmt.Sprintf("Receive(%#v)", c)
		got, err = p.d.Receive(c)
		want, wantErr = p.m.receive(c)
	}
	if got != want || err != wantErr {
		t.Fatalf("%s = %d and the error %d, want %d and %d", what, got, err, want, wantErr)
	}
	return what
}

// walk takes many steps with documents and copies of them.
func walk(t *testing.T, w writer, text string, version, steps, most int) {
	t.Helper()
	d, err := New(text, version)
	if err != api.OK {
		t.Fatalf("New(%q, %d): the error %d", text, version, err)
	}
	pairs := []pair{{d, newModel(text, version)}}
	for range steps {
		p := pairs[w.IntN(len(pairs))]
		what := w.step(t, p, most)
		p.check(t, what)
		checkBack(t, p.d)
		if w.IntN(10) > 0 {
			continue
		}
		for _, other := range pairs {
			other.check(t, what+", perhaps of another document")
		}
		if len(pairs) == 4 {
			pairs = slices.Delete(pairs, 0, 1)
		}
		pairs = append(pairs, pair{p.d.Copy(), p.m.copied()})
		pairs[len(pairs)-1].check(t, "Copy")
	}
}

func TestManySteps(t *testing.T) { // P5.2 to P5.8, P5.10
	for seed := range uint64(30) {
		w := newWriter(seed)
		walk(t, w, w.text(30), int(seed%4), 100, 3)
	}
	for seed := range uint64(3) {
		w := newWriter(100 + seed)
		walk(t, w, w.text(300), 7, 40, 30)
	}
	for seed := range uint64(8) {
		w := newWriter(200 + seed)
		walk(t, w, w.text(20), api.MaxInt-int(seed), 30, 3)
	}
	for seed := range uint64(4) {
		w := newWriter(300 + seed)
		walk(t, w, strings.Repeat("\u20ac", api.MaxText/3-2), 0, 30, 3)
	}
}
