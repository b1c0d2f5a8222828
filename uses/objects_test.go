package uses_test

import (
	"fmt"
	"testing"

	"recast/api"
	"recast/check"
	"recast/uses"
)

func TestObject(t *testing.T) {
	a := "package main; import \"b\"; type T struct { x int; b.S }; func main() { t := T{x: 1}; t.x = len(t.S.Y); b.F(t) }"
	r := checked(t, files("main/a.gc", a, "b/b.gc", "package b; type S struct { Y string }; func F[P any](p P) P { return p }"))
	for _, row := range []struct {
		part string
		n    int
		want string
	}{
		{"T", 0, "4 T main/a.gc:31"}, {"T", 1, "4 T main/a.gc:31"}, {"x", 0, "7 x main/a.gc:42"}, {"x", 1, "7 x main/a.gc:42"}, {"x", 2, "7 x main/a.gc:42"},
		{"main()", 0, "5 main main/a.gc:61"}, {"t :=", 0, "2 t main/a.gc:70"}, {"t.x", 0, "2 t main/a.gc:70"}, {"t)", 0, "2 t main/a.gc:70"},
		{"S", 0, "4 S b/b.gc:16"}, {"S", 1, "7 S main/a.gc:51"}, {"Y", 0, "7 Y b/b.gc:27"}, {"F", 0, "5 F b/b.gc:44"},
		{"b.", 0, "1 b main/a.gc:14"}, {"b.", 1, "1 b main/a.gc:14"},
		{"int", 0, "none 0"}, {"len", 0, "none 0"}, {"package", 0, "none 0"}, {"main;", 0, "none 0"}, {"import", 0, "none 0"}, {"ain()", 0, "none 0"}, {"1", 0, "none 0"}, {".", 0, "none 0"}, {" ", 0, "none 0"},
	} {
		number, ok := uses.Object(r, "main/a.gc", at(t, a, row.part, row.n))
		if got := shownObject(r, number, ok); got != row.want {
			t.Errorf("P14.1: the object at %q, %d, is %s, want %s", row.part, row.n, got, row.want)
		}
	}
	for _, p := range []uses.Place{{"main/b.gc", 31}, {"", 31}, {"main/a.gc", -1}, {"main/a.gc", 1 << 62}, {"main/a.gc", -1 << 63}, {"main/a.g", 31}, {"main/a.gc ", 31}, {"z", 0}} {
		if number, ok := uses.Object(r, p.Path, p.At); ok || number != 0 {
			t.Errorf("P14.1: the object at %v is %d, %v", p, number, ok)
		}
	}
	if number, ok := uses.Object(check.Result{}, "main/a.gc", 31); ok || number != 0 {
		t.Errorf("P14.1: of nothing at all the object is %d, %v", number, ok)
	}
}

func TestObjectEverywhere(t *testing.T) {
	for _, l := range some() {
		r := checked(t, l)
		for _, f := range l {
			for n := -1; n <= len(f.Text); n++ {
				want, stands := 0, false
				for _, u := range r.Info.Uses {
					if u.Path == f.Path && u.At == n && u.Obj != -1 {
						want, stands = u.Obj, true
					}
				}
				if got, ok := uses.Object(r, f.Path, n); got != want || ok != stands {
					t.Errorf("P14.1: the object at %d of %s is %d, %v, want %d, %v", n, f, got, ok, want, stands)
				}
			}
		}
	}
}

// some is modules that are right.
func some() [][]api.File {
	return [][]api.File{
		files("main/b.gc", "package main; import \"b\"; func main() { x := b.T{b.U{1}}; x.M(); var i b.I = x; i.M(); f[b.U](x.U); print(x.U.X, y) }", "main/a.gc", "package main; import \"b\"; const y = len(\"a\"); func f[P any](p P) { var u b.U; u.X += 1; q := p; print(u.X); p = q }",
			"b/b.gc", "package b; type T struct { U }; type U struct { X int }; func (t T) M() { t.U.X++ }; type I interface { M() }; type J interface { I }"),
		inMain("type T struct { f func(int) string; n *T }; var t T; func g() T { return T{f: t.f, n: t.n.n} }; func (t *T) h() { t.n.h(); go func(x int) { defer t.h(); print(t.f(x)) }(1) }"),
	}
}

func TestPlaces(t *testing.T) {
	a := "package main; import \"b\"; func main() { x := b.X; x, y := b.X, x; print(x, y) }"
	r := checked(t, files("main/a.gc", a, "b/b.gc", "package b; var X = f(); func f() int { return 1 }", "main/z.gc", "package main; import \"b\"; type T struct { b.S; X int }; var z = T{X: b.X}.X", "b/s.gc", "package b; type S int"))
	places := func(names ...string) string {
		var objs []int
		for number, o := range r.Info.Objects {
			for _, name := range names {
				if name == o.Name || name == fmt.Sprint(o.Kind, o.Name) {
					objs = append(objs, number)
				}
			}
		}
		return shownPlaces(uses.Places(r, objs))
	}
	for _, row := range []struct {
		names []string
		want  string
	}{
		{[]string{"x"}, "main/a.gc:40 main/a.gc:50 main/a.gc:63 main/a.gc:72"},
		{[]string{"y", "x", "x"}, "main/a.gc:40 main/a.gc:50 main/a.gc:53 main/a.gc:63 main/a.gc:72 main/a.gc:75"},
		{[]string{"2X"}, "b/b.gc:15 main/a.gc:47 main/a.gc:60 main/z.gc:71"},
		{[]string{"7X"}, "main/z.gc:47 main/z.gc:66 main/z.gc:74"},
		{[]string{"1b"}, "main/a.gc:45 main/a.gc:58 main/z.gc:42 main/z.gc:69"},
		{[]string{"S"}, "b/s.gc:16 main/z.gc:44"}, {[]string{"7S"}, ""}, {[]string{"4S"}, "b/s.gc:16 main/z.gc:44"},
		{[]string{"z", "f", "y"}, "b/b.gc:19 b/b.gc:29 main/a.gc:53 main/a.gc:75 main/z.gc:60"},
		{nil, ""}, {[]string{"nothing"}, ""},
	} {
		if got := places(row.names...); got != row.want {
			t.Errorf("P14.1: the places of %v are %s, want %s", row.names, got, row.want)
		}
	}
	number := len(r.Info.Objects)
	if l := uses.Places(r, []int{-1, number, number + 1, -2, 1 << 62, -1 << 63}); len(l) > 0 {
		t.Errorf("P14.1: the places of no objects are %v", l)
	}
	if l := uses.Places(check.Result{}, []int{0, -1}); len(l) > 0 {
		t.Errorf("P14.1: of nothing at all the places are %v", l)
	}
}

func TestPlacesAndObjects(t *testing.T) {
	for _, l := range some() {
		r := checked(t, l)
		var all []int
		n := 0
		for number := range r.Info.Objects {
			all = append(all, number)
			places := uses.Places(r, []int{number})
			n += len(places)
			for _, p := range places {
				if got, ok := uses.Object(r, p.Path, p.At); !ok || got != number {
					t.Errorf("P14.1: at a place %v of the object %d is %d, %v", p, number, got, ok)
				}
			}
		}
		if l := uses.Places(r, append(all, all...)); len(l) != n || n == 0 {
			t.Errorf("P14.1: of all objects there are %d places, of each of them %d", len(l), n)
		}
	}
}
