package names

import (
	"reflect"
	"slices"
	"testing"

	"schemalens/api"
)

// spoil changes all that a value leads to, also what its slices could grow into.
func spoil(v reflect.Value) {
	switch v.Kind() {
	case reflect.Int:
		v.SetInt(v.Int() + 77)
	case reflect.String:
		v.SetString(v.String() + "spoilt")
	case reflect.Bool:
		v.SetBool(!v.Bool())
	case reflect.Struct:
		for i := range v.NumField() {
			spoil(v.Field(i))
		}
	case reflect.Array:
		for i := range v.Len() {
			spoil(v.Index(i))
		}
	case reflect.Slice:
		v.SetLen(v.Cap())
		for i := range v.Len() {
			spoil(v.Index(i))
		}
	}
}

// widen gives all slices in a value room for one more element, which it fills.
func widen(v reflect.Value) {
	switch v.Kind() {
	case reflect.Struct:
		for i := range v.NumField() {
			widen(v.Field(i))
		}
	case reflect.Slice:
		for i := range v.Len() {
			widen(v.Index(i))
		}
		n := v.Len()
		wide := reflect.MakeSlice(v.Type(), n+1, n+1)
		reflect.Copy(wide, v)
		spoil(wide.Index(n))
		v.Set(wide.Slice(0, n))
	}
}

// full returns a value with its slices as long as they can become.
func full(v reflect.Value) any {
	switch v.Kind() {
	case reflect.Struct:
		var l []any
		for i := range v.NumField() {
			l = append(l, full(v.Field(i)))
		}
		return l
	case reflect.Slice:
		var l []any
		v = v.Slice(0, v.Cap())
		for i := range v.Len() {
			l = append(l, full(v.Index(i)))
		}
		return l
	}
	return v.Interface()
}

func spoilAll(results ...any) {
	for _, r := range results {
		spoil(reflect.ValueOf(r).Elem())
	}
}

func TestModulesStayAsTheyAre(t *testing.T) { // R4
	for seed := range uint64(200) {
		ms, same := newAuthor(seed).modules(), newAuthor(seed).modules()
		widen(reflect.ValueOf(&ms).Elem())
		widen(reflect.ValueOf(&same).Elem())
		symbols, uses, problems, calls, visible := Symbols(ms), Uses(ms), Problems(ms), Calls(ms), Visible(ms, "a", 5)
		if !reflect.DeepEqual(full(reflect.ValueOf(ms)), full(reflect.ValueOf(same))) {
			t.Fatalf("seed %d: the modules were changed", seed)
		}
		spoilAll(&symbols, &uses, &problems, &calls, &visible)
		if !reflect.DeepEqual(full(reflect.ValueOf(ms)), full(reflect.ValueOf(same))) {
			t.Fatalf("seed %d: the results share memory with the modules", seed)
		}
		checkModel(t, "again", ms, 2)
	}
	x := newExample("fun f() = y + y + z")
	l := Problems(x.ms)
	l[0].Names[0] = "w"
	checkList(t, x, "Problems", l[1:], showProblem, "a 14-15 unknown y", "a 18-19 unknown z")
}

func TestExprsStayAsTheyAre(t *testing.T) { // R4
	replaced := 0
	for seed := range uint64(500) {
		make := func() (e, by api.Expr) {
			a := newAuthor(seed)
			e, by = a.expr(4), a.expr(2)
			widen(reflect.ValueOf(&e).Elem())
			widen(reflect.ValueOf(&by).Elem())
			return e, by
		}
		e, by := make()
		sameE, sameBy := make()
		free, got := Free(e), Subst(e, "x", by)
		if slices.Contains(free, "x") {
			replaced++
		}
		for _, when := range []string{"were changed", "share memory with the result"} {
			if !reflect.DeepEqual(full(reflect.ValueOf(e)), full(reflect.ValueOf(sameE))) ||
				!reflect.DeepEqual(full(reflect.ValueOf(by)), full(reflect.ValueOf(sameBy))) {
				t.Fatalf("seed %d: the arguments %s", seed, when)
			}
			spoilAll(&free, &got)
		}
	}
	if replaced < 100 {
		t.Errorf("%d replaced", replaced)
	}
	twice := Subst(list(variable("x", 0, 0), variable("x", 0, 0)), "x", list(variable("y", 0, 0)))
	twice.Kids[0].Kids[0].Name = "z"
	if twice.Kids[1].Kids[0].Name != "y" {
		t.Error("two parts of the result share memory")
	}
	used := []string{"x", "x1"}
	if Fresh("x", used[:1]); used[1] != "x1" {
		t.Error("the used names were changed")
	}
}
