package ast

import (
	"reflect"
	"slices"
	"strconv"
	"strings"
	"testing"

	"schemalens/api"
	"schemalens/parser"
)

// A filling gives all fields of a value contents that differ from each other.
type filling struct{ count int }

// fill fills a value with lists of two elements, but only to some depth with those of
// expressions, types and nodes in each other.
func (f *filling) fill(v reflect.Value, depth int) {
	f.count++
	switch v.Kind() {
	case reflect.Int:
		v.SetInt(int64(f.count))
	case reflect.String:
		v.SetString("s" + strconv.Itoa(f.count))
	case reflect.Bool:
		v.SetBool(true)
	case reflect.Struct:
		for i := range v.NumField() {
			f.fill(v.Field(i), depth)
		}
	case reflect.Slice:
		switch v.Type().Elem() {
		case reflect.TypeFor[api.Expr](), reflect.TypeFor[api.Type](), reflect.TypeFor[api.Node]():
			depth--
		}
		if depth < 0 {
			return
		}
		v.Set(reflect.MakeSlice(v.Type(), 2, 3))
		for i := range 2 {
			f.fill(v.Index(i), depth)
		}
	}
}

func filled[T any](depth int) T {
	var x T
	(&filling{}).fill(reflect.ValueOf(&x).Elem(), depth)
	return x
}

// eachField calls f with all numbers, strings, truth values and lists in a value, and
// with the name of the field in which each is.
func eachField(v reflect.Value, name string, f func(v reflect.Value, name string)) {
	switch v.Kind() {
	case reflect.Struct:
		for i := range v.NumField() {
			eachField(v.Field(i), v.Type().Field(i).Name, f)
		}
	case reflect.Slice:
		f(v, name)
		for i := range v.Len() {
			eachField(v.Index(i), name, f)
		}
	default:
		f(v, name)
	}
}

func isPosition(name string) bool {
	return slices.Contains([]string{"At", "End", "NameAt"}, name)
}

// changes returns what changes a field, each in a way of its own.
func changes(v reflect.Value) []func() {
	switch v.Kind() {
	case reflect.Int:
		return []func(){func() { v.SetInt(v.Int() + 1) }, func() { v.SetInt(-v.Int() - 1) }}
	case reflect.String:
		return []func(){func() { v.SetString(v.String() + "x") }, func() { v.SetString("") }}
	case reflect.Bool:
		return []func(){func() { v.SetBool(!v.Bool()) }}
	}
	more := func() { v.Set(reflect.Append(v, reflect.Zero(v.Type().Elem()))) }
	if v.Len() == 0 {
		return []func(){more}
	}
	return []func(){more, func() { v.Set(v.Slice(0, v.Len()-1)) }, func() { v.SetZero() }}
}

// checkEqual changes each field of a value alone.
func checkEqual[T any](t *testing.T, equal func(a, b T) bool, depth int) {
	t.Helper()
	a, b := filled[T](depth), filled[T](depth)
	if !equal(a, b) {
		t.Fatal("equal values are different")
	}
	fields := 0
	eachField(reflect.ValueOf(&b).Elem(), "", func(v reflect.Value, name string) {
		before := reflect.New(v.Type()).Elem()
		before.Set(v)
		for i, change := range changes(v) {
			change()
			fields++
			if got := equal(a, b); got != isPosition(name) || equal(b, a) != got {
				t.Errorf("equal is %v after change %d of a field %s", got, i, name)
			}
			v.Set(before)
		}
	})
	if !equal(a, b) || fields < 50 {
		t.Errorf("%d changes were made", fields)
	}
}

func TestEqual(t *testing.T) { // P10.9
	checkEqual(t, EqualExpr, 2)
	checkEqual(t, Equal, 1)
	if !Equal(api.Module{}, api.Module{Decls: []api.Decl{}}) || Equal(api.Module{}, api.Module{Decls: make([]api.Decl, 1)}) {
		t.Error("modules without declarations are told apart")
	}
	none := api.Expr{Kids: []api.Expr{}, Names: []string{}, Binds: []string{}}
	if !EqualExpr(api.Expr{}, none) || !EqualExpr(none, api.Expr{}) {
		t.Error("empty lists are told apart")
	}
	bad := api.Expr{Kind: api.EBad, At: 1, End: 2}
	if !EqualExpr(bad, api.Expr{Kind: api.EBad, At: 3}) || EqualExpr(bad, api.Expr{Kind: api.EHole, At: 1, End: 2}) {
		t.Error("wrong for what could not be read")
	}
	// The same nodes in another order, or on another level.
	for _, s := range []string{"f(x, y)", "f(g(x), y)", "f(g(x, y))", "f(y, x)", "g(x, y)", "m.f(x, y)", "[x, y]", "f(x, y, y)", "f(x)"} {
		for _, other := range []string{"f(x, y)", "f(g(x), y)", "f(g(x, y))", "f(y, x)", "g(x, y)", "m.f(x, y)", "[x, y]", "f(x, y, y)", "f(x)"} {
			a, _ := ParseExpr(s)
			b, _ := ParseExpr(" ( " + other + " ) ")
			if EqualExpr(a, b) != (s == other) {
				t.Errorf("EqualExpr is wrong for %q and %q", s, other)
			}
		}
	}
}

// checkStripped compares a value with the one whose positions were removed.
func checkStripped[T any](t *testing.T, strip func(T) T, x T) {
	t.Helper()
	want := full(reflect.ValueOf(x)).Interface().(T)
	eachField(reflect.ValueOf(&want).Elem(), "", func(v reflect.Value, name string) {
		if isPosition(name) {
			v.SetZero()
		}
	})
	got := strip(x)
	if !reflect.DeepEqual(normal(got), normal(want)) {
		t.Errorf("the result is %+v, want %+v", got, want)
	}
	checkOwn(t, got, x)
}

// normal replaces empty lists by nil ones.
func normal[T any](x T) T {
	eachField(reflect.ValueOf(&x).Elem(), "", func(v reflect.Value, _ string) {
		if v.Kind() == reflect.Slice && v.Len() == 0 {
			v.SetZero()
		}
	})
	return x
}

// rebuilt returns a copy of a value in which f makes the copies of its lists.
func rebuilt(v reflect.Value, f func(list reflect.Value) reflect.Value) reflect.Value {
	switch v.Kind() {
	case reflect.Slice:
		return f(v)
	case reflect.Struct:
		c := reflect.New(v.Type()).Elem()
		for i := range v.NumField() {
			c.Field(i).Set(rebuilt(v.Field(i), f))
		}
		return c
	}
	return v
}

// eachOf returns a list with room for spare elements behind those that f makes.
func eachOf(list reflect.Value, spare int, f func(v reflect.Value) reflect.Value) reflect.Value {
	c := reflect.MakeSlice(list.Type(), list.Len()+spare, list.Len()+spare)
	for i := range list.Len() {
		c.Index(i).Set(f(list.Index(i)))
	}
	return c
}

// full returns a copy of a value without spare capacity.
func full(v reflect.Value) reflect.Value {
	return rebuilt(v, func(list reflect.Value) reflect.Value { return eachOf(list, 0, full) })
}

// roomy returns a copy of a value whose lists have spare capacity with contents.
func roomy(v reflect.Value) reflect.Value {
	return rebuilt(v, func(list reflect.Value) reflect.Value {
		c := eachOf(list, 2, roomy)
		for i := range 2 {
			(&filling{i}).fill(c.Index(list.Len()+i), 0)
		}
		return c.Slice(0, list.Len())
	})
}

// allOf returns a copy of a value with the spare capacity of its lists as elements.
func allOf(v reflect.Value) reflect.Value {
	return rebuilt(v, func(list reflect.Value) reflect.Value {
		return eachOf(list.Slice(0, list.Cap()), 0, allOf)
	})
}

// A span is the memory of a list.
type span struct{ from, to uintptr }

func spans(x any) []span {
	var l []span
	eachField(reflect.ValueOf(x), "", func(v reflect.Value, _ string) {
		if v.Kind() == reflect.Slice && v.Cap() > 0 {
			size := uintptr(v.Cap()) * v.Type().Elem().Size()
			l = append(l, span{v.Pointer(), v.Pointer() + size})
		}
	})
	return l
}

// checkOwn checks that no two lists of a result share memory, and none with an argument.
func checkOwn(t *testing.T, result any, arguments ...any) {
	t.Helper()
	l := spans(result)
	own := len(l)
	for _, x := range arguments {
		l = append(l, spans(x)...)
	}
	for i, a := range l[:own] {
		for _, b := range l[i+1:] {
			if a.from < b.to && b.from < a.to {
				t.Fatalf("the result %+v shares memory", result)
			}
		}
	}
}

func TestStrip(t *testing.T) { // P10.9
	checkStripped(t, StripExpr, filled[api.Expr](2))
	checkStripped(t, StripExpr, api.Expr{})
	checkStripped(t, StripExpr, api.Expr{Kind: api.EBad, At: -1, End: 3, Kids: []api.Expr{{At: 1}}})
	checkStripped(t, Strip, filled[api.Module](1))
	checkStripped(t, Strip, api.Module{})
	for _, s := range samples() {
		checkStripped(t, Strip, lower(s))
		checkStripped(t, Strip, lower(s[:len(s)/2]))
		if m := lower(s); !Equal(Strip(m), m) {
			t.Errorf("Strip changes more than positions of %q", s)
		}
	}
}

func TestSize(t *testing.T) { // P10.9
	for s, want := range map[string]int{
		"1": 1, "x": 1, "?": 1, "{}": 1, "f()": 1, "(((x)))": 1, "f(x)": 2, "x.a.b": 3, "a+b*c": 5, "not not a": 3,
		"[x | x <- t, y]": 4, "match x {A -> 1, B(y) -> y}": 4, "{x with a = 1}": 3, "{a = 1, b = [2, 3]}": 5,
		"let x = if a then b else c in f(x, [x])": 9,
	} {
		e, err := ParseExpr(s)
		if got := Size(e); err != api.OK || got != want {
			t.Errorf("Size of %q is %d, want %d", s, got, want)
		}
	}
	if got := Size(api.Expr{Kind: 99, Names: []string{"a"}, Kids: []api.Expr{{Kind: api.EBad}, {}}}); got != 3 {
		t.Errorf("Size is %d", got)
	}
}

// checkUnchanged calls f with a copy of a value, which must stay as it is.
func checkUnchanged[T any](t *testing.T, x T, f func(x T)) {
	t.Helper()
	argument := roomy(reflect.ValueOf(x))
	before := allOf(argument).Interface()
	f(argument.Interface().(T))
	if !reflect.DeepEqual(allOf(argument).Interface(), before) {
		t.Errorf("the argument %+v was changed", x)
	}
}

func TestArgumentsStayAsTheyAre(t *testing.T) { // R4
	modules := []api.Module{filled[api.Module](1), {}}
	exprs := []api.Expr{filled[api.Expr](2), {}}
	types := []api.Type{filled[api.Type](2), {}}
	for _, s := range append(samples(), "type T = A({b: Int, a: Text, b: T})") {
		tree, _ := parser.Parse(s)
		checkUnchanged(t, tree, func(n api.Node) { Lower("m", n) })
		m := lower(s)
		modules = append(modules, m)
		for _, d := range m.Decls {
			exprs = append(exprs, d.Body, d.Table.Check)
			types = append(types, d.Type)
			for _, c := range d.Sum.Ctors {
				types = append(types, c.Arg)
			}
		}
	}
	for _, m := range modules {
		checkUnchanged(t, m, func(m api.Module) { Print(m) })
		checkUnchanged(t, m, func(m api.Module) { Strip(m) })
		checkUnchanged(t, m, func(m api.Module) { Equal(m, m) })
	}
	for _, e := range exprs {
		checkUnchanged(t, e, func(e api.Expr) { PrintExpr(e) })
		checkUnchanged(t, e, func(e api.Expr) { Valid(e) })
		checkUnchanged(t, e, func(e api.Expr) { StripExpr(e) })
		checkUnchanged(t, e, func(e api.Expr) { EqualExpr(e, e) })
		checkUnchanged(t, e, func(e api.Expr) { Size(e) })
	}
	for _, x := range types {
		checkUnchanged(t, x, func(x api.Type) { PrintType(x) })
	}
}

func TestResultsAreNew(t *testing.T) { // R4
	for seed := range uint64(200) {
		a := newAuthor(seed)
		a.module(3)
		tree, _ := parser.Parse(a.text)
		first := Lower("m", tree)
		checkOwn(t, first, tree, Lower("m", tree))
		for _, d := range first.Decls {
			s, _ := PrintExpr(d.Body)
			e, _ := ParseExpr(s)
			again, _ := ParseExpr(s)
			checkOwn(t, e, again)
			s, _ = PrintType(d.Type)
			x, _ := ParseType(s)
			other, _ := ParseType(s)
			checkOwn(t, x, other)
		}
	}
}

func TestLongSources(t *testing.T) { // R1
	const n = 1 << 15
	for _, s := range []string{
		"x" + strings.Repeat(" + x", n),
		"x" + strings.Repeat(".a", n),
		"[" + strings.Repeat("x, ", n) + "x]",
		"{ " + strings.Repeat("a = x, ", n) + "a = x }",
		"[x | " + strings.Repeat("x <- x, ", n) + "x]",
		"match x { " + strings.Repeat("A -> x, ", n) + "A -> x }",
		"f(" + strings.Repeat("C(1), ", n) + "x)",
	} {
		e, err := ParseExpr(s)
		if err != api.OK || Size(e) < n {
			t.Fatalf("ParseExpr of %.40q returns %d nodes and %v", s, Size(e), err)
		}
		if got, err := PrintExpr(e); got != s || err != api.OK {
			t.Errorf("PrintExpr of %.40q returns %.40q and %v", s, got, err)
		}
		if !EqualExpr(StripExpr(e), e) {
			t.Errorf("StripExpr of %.40q is wrong", s)
		}
	}
	record := "{ " + strings.Repeat("b: Int, ", n) + "a: [Text] }"
	if x, err := ParseType(record); err != api.OK || showType(x) != "Record{a,b}(List(Text) Int)" {
		t.Errorf("ParseType returns %.40s and %v", showType(x), err)
	}
	m := lower(strings.Repeat("fun f(x) = x\n", n))
	if s, err := Print(m); err != api.OK || len(s) != 13*n {
		t.Errorf("Print returns %d bytes and %v", len(s), err)
	}
	deep := varX
	for range 1 << 16 {
		deep = call("f", deep)
	}
	if Valid(deep) != api.ErrLimit || Size(deep) != 1<<16+1 || !EqualExpr(StripExpr(deep), deep) {
		t.Error("wrong for a deep expression")
	}
	deepType := api.Type{}
	for range 1 << 16 {
		deepType = listOf(deepType)
	}
	if s, err := PrintType(deepType); s != "" || err != api.ErrLimit {
		t.Errorf("PrintType of a deep type returns %.40q and %v", s, err)
	}
}
