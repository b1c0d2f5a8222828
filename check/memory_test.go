package check_test

import (
	"reflect"
	"slices"
	"testing"

	"recast/check"
)

// span is the memory of a list.
type span struct {
	from, to uintptr
	what     string
}

// lists is the memory of all lists within a value, its own too.
func lists(v reflect.Value, what string) []span {
	var out []span
	switch v.Kind() {
	case reflect.Struct:
		for i := range v.NumField() {
			out = append(out, lists(v.Field(i), what+"."+v.Type().Field(i).Name)...)
		}
	case reflect.Slice:
		if v.Cap() > 0 {
			from := v.Pointer()
			out = append(out, span{from, from + uintptr(v.Cap())*v.Type().Elem().Size(), what})
		}
		for i := range v.Len() {
			out = append(out, lists(v.Index(i), what)...)
		}
	}
	return out
}

// No two lists of what was answered share memory, nor do two answers.
func TestOwnMemory(t *testing.T) {
	m := loaded(t, great())
	first, _ := check.Module(m, nil)
	second, _ := check.Module(m, nil)
	all := append(lists(reflect.ValueOf(first), "first"), lists(reflect.ValueOf(second), "second")...)
	if len(all) < 500 {
		t.Errorf("there are %d lists: that is not much of a test", len(all))
	}
	slices.SortFunc(all, func(a, b span) int { return int(a.from) - int(b.from) })
	for i := range all[1:] {
		if all[i].to > all[i+1].from {
			t.Fatalf("P13.5: %v and %v share memory", all[i], all[i+1])
		}
	}
}

// What was answered is the caller's.
func TestKept(t *testing.T) {
	m := loaded(t, great())
	r, fault := check.Module(m, nil)
	want := shown(r, fault)
	spoil(reflect.ValueOf(&r).Elem())
	if got := shown(check.Module(m, nil)); got != want {
		t.Errorf("P13.5: Module keeps what it answered: %s", got)
	}
	if fault := check.All(m); fault.Code != 0 {
		t.Errorf("P13.5: All is %v", fault)
	}
	// What is handed in is not changed, its spare room neither.
	set := append(make([]string, 0, 8), "b", "a", "b")
	check.Module(m, set)
	if room := set[:8]; !slices.Equal(room, []string{"b", "a", "b", "", "", "", "", ""}) {
		t.Errorf("P13.5: Module makes %q of the set", room)
	}
}

// spoil changes all that a value has.
func spoil(v reflect.Value) {
	switch v.Kind() {
	case reflect.Struct:
		for i := range v.NumField() {
			spoil(v.Field(i))
		}
	case reflect.Slice:
		for i := range v.Len() {
			spoil(v.Index(i))
		}
	case reflect.Int:
		v.SetInt(99)
	case reflect.String:
		v.SetString("spoilt")
	case reflect.Bool:
		v.SetBool(!v.Bool())
	}
}
