package spans_test

import (
	"math"
	"slices"
	"strconv"
	"strings"
	"testing"

	"recast/api"
	"recast/spans"
)

// edit is one of the file a.
func edit(from, to int, text string) api.Edit {
	return api.Edit{Path: "a", From: from, To: to, Text: text}
}

// of is an edit of another file.
func of(path string, e api.Edit) api.Edit {
	e.Path = path
	return e
}

// pool is edits that clash in every way, and in none.
func pool() []api.Edit {
	var l []api.Edit
	for from := 0; from <= 3; from++ {
		for to := from; to <= 3; to++ {
			l = append(l, edit(from, to, ""), edit(from, to, "XY"))
		}
	}
	return append(l, of("b", edit(1, 1, "XY")), of("b", edit(0, 2, "Z")), of("B", edit(1, 2, "")))
}

// lists calls see with every list of at most three of the pool's edits, in every order.
func lists(see func(l []api.Edit)) {
	see(nil)
	all := pool()
	for _, a := range all {
		see([]api.Edit{a})
		for _, b := range all {
			see([]api.Edit{a, b})
			for _, c := range all {
				see([]api.Edit{a, b, c})
			}
		}
	}
}

// clash is whether two edits that are not the same in all clash, as the document words it.
func clash(a, b api.Edit) bool {
	if a.Path != b.Path {
		return false
	}
	for at := a.From; at < a.To; at++ {
		if b.From <= at && at < b.To {
			return true
		}
	}
	none := func(e api.Edit) bool { return e.From == e.To }
	within := func(e, other api.Edit) bool {
		return none(e) && (other.From < e.From && e.From < other.To || e.From == other.From)
	}
	return within(a, b) || within(b, a)
}

// refused is whether two edits of l clash.
func refused(l []api.Edit) bool {
	for i, a := range l {
		for _, b := range l[:i] {
			if a != b && clash(a, b) {
				return true
			}
		}
	}
	return false
}

// once is l sorted by inserting, each edit once.
func once(l []api.Edit) []api.Edit {
	var out []api.Edit
	for _, e := range l {
		if slices.Contains(out, e) {
			continue
		}
		at := len(out)
		for at > 0 && ahead(e, out[at-1]) {
			at--
		}
		out = slices.Insert(out, at, e)
	}
	return out
}

// ahead is whether an edit stands ahead of another that it does not clash with.
func ahead(a, b api.Edit) bool {
	if a.Path != b.Path {
		return a.Path < b.Path
	}
	if a.From != b.From {
		return a.From < b.From
	}
	return a.To < b.To
}

func TestSortedRefuses(t *testing.T) {
	for i, l := range [][]api.Edit{
		{edit(1, 3, ""), edit(2, 4, "")}, {edit(2, 4, ""), edit(1, 3, "")}, {edit(1, 3, "a"), edit(1, 3, "b")}, {edit(1, 4, ""), edit(2, 3, "")}, {edit(1, 3, ""), edit(1, 4, "")},
		{edit(1, 4, ""), edit(2, 2, "")}, {edit(1, 4, ""), edit(3, 3, "")}, {edit(1, 3, ""), edit(1, 1, "")}, {edit(1, 1, "x"), edit(1, 3, "")}, {edit(2, 2, "a"), edit(2, 2, "b")},
		{edit(-1, 2, "")}, {edit(-1, -1, "")}, {edit(-2, -1, "")}, {edit(3, 2, "")}, {edit(0, -1, "")}, {edit(math.MinInt, math.MaxInt, "")}, {edit(math.MaxInt, math.MinInt, "")},
		{edit(3, 2, ""), edit(3, 2, "")}, {edit(1, 2, ""), of("b", edit(3, 2, ""))}, {edit(0, 9, ""), edit(1, 2, ""), edit(20, 21, "")}, {edit(0, 1, ""), edit(4, 6, ""), edit(2, 5, "")},
		{edit(2, 2, "a"), edit(2, 2, "a"), edit(2, 2, "b")}, {edit(1, 3, "a"), edit(1, 3, "a"), edit(2, 2, "")},
		{edit(5, math.MaxInt, ""), edit(math.MaxInt-1, math.MaxInt, "")},
	} {
		if got, err := spans.Sorted(l); err != api.ErrArg || len(got) > 0 {
			t.Errorf("P1.3: number %d: Sorted(%v) is %v, %d; want ErrArg alone", i, l, got, err)
		}
	}
}

func TestSorted(t *testing.T) {
	for i, x := range []struct{ l, want []api.Edit }{
		{nil, nil}, {[]api.Edit{}, nil},
		{[]api.Edit{edit(3, 3, "y"), edit(1, 3, "x")}, []api.Edit{edit(1, 3, "x"), edit(3, 3, "y")}},
		{[]api.Edit{edit(3, 5, ""), edit(1, 3, "")}, []api.Edit{edit(1, 3, ""), edit(3, 5, "")}},
		{[]api.Edit{edit(2, 2, "a"), edit(2, 2, "a")}, []api.Edit{edit(2, 2, "a")}},
		{[]api.Edit{edit(4, 6, "b"), edit(1, 3, "a"), edit(4, 6, "b"), edit(1, 3, "a"), edit(4, 6, "b")}, []api.Edit{edit(1, 3, "a"), edit(4, 6, "b")}},
		{[]api.Edit{of("b", edit(1, 3, "")), edit(2, 4, "")}, []api.Edit{edit(2, 4, ""), of("b", edit(1, 3, ""))}},
		{[]api.Edit{edit(9, 9, ""), of("B", edit(10, 11, "")), of("", edit(12, 12, "")), of("\xff", edit(0, 0, "")), of("é", edit(0, 0, "")), of("a/b", edit(0, 0, ""))}, []api.Edit{of("", edit(12, 12, "")), of("B", edit(10, 11, "")), edit(9, 9, ""), of("a/b", edit(0, 0, "")), of("é", edit(0, 0, "")), of("\xff", edit(0, 0, ""))}},
		{[]api.Edit{edit(math.MaxInt, math.MaxInt, "x"), edit(0, math.MaxInt, "")}, []api.Edit{edit(0, math.MaxInt, ""), edit(math.MaxInt, math.MaxInt, "x")}},
	} {
		if got, err := spans.Sorted(x.l); err != api.OK || !slices.Equal(got, x.want) {
			t.Errorf("P1.3: number %d: Sorted(%v) is %v, %d; want %v", i, x.l, got, err, x.want)
		}
	}
	lists(func(l []api.Edit) {
		want, code := once(l), api.OK
		if refused(l) {
			want, code = nil, api.ErrArg
		}
		if got, err := spans.Sorted(l); err != code || !slices.Equal(got, want) {
			t.Fatalf("P1.3: Sorted(%v) is %v, %d; want %v, %d", l, got, err, want, code)
		}
	})
}

// letters are files in which each byte is another one; a has just the bytes that the pool reaches.
func letters() []api.File {
	return []api.File{{Path: "c", Text: "pqr"}, {Path: "b", Text: "stuv"}, {Path: "a", Text: "abc"}, {Path: "B", Text: "fgh"}}
}

// applied makes l's edits one at a time, the last one first, so that each finds its bytes where they were.
func applied(files []api.File, l []api.Edit) []api.File {
	out := slices.Clone(files)
	l = once(l)
	for _, e := range slices.Backward(l) {
		for i, f := range out {
			if f.Path == e.Path {
				out[i].Text = f.Text[:e.From] + e.Text + f.Text[e.To:]
			}
		}
	}
	return out
}

func TestApply(t *testing.T) {
	a := func(text string) api.File { return api.File{Path: "a", Text: text} }
	b := func(text string) api.File { return api.File{Path: "b", Text: text} }
	for i, x := range []struct {
		files []api.File
		l     []api.Edit
		want  []api.File
	}{
		{nil, nil, nil},
		{[]api.File{a("abcdef")}, nil, []api.File{a("abcdef")}},
		{[]api.File{a("abcdef")}, []api.Edit{edit(4, 4, "YY"), edit(1, 3, "X")}, []api.File{a("aXdYYef")}},
		{[]api.File{a("abcdef")}, []api.Edit{edit(3, 3, "Y"), edit(1, 3, "X")}, []api.File{a("aXYdef")}},
		{[]api.File{a("abcdef")}, []api.Edit{edit(2, 2, "Y"), edit(2, 2, "Y")}, []api.File{a("abYcdef")}},
		{[]api.File{a("abcdef")}, []api.Edit{edit(0, 6, "")}, []api.File{a("")}},
		{[]api.File{a("abcdef")}, []api.Edit{edit(6, 6, "!"), edit(0, 0, "?")}, []api.File{a("?abcdef!")}},
		{[]api.File{a("")}, []api.Edit{edit(0, 0, "x")}, []api.File{a("x")}},
		{[]api.File{b("bb"), a("aa")}, []api.Edit{edit(0, 1, "x"), of("b", edit(1, 2, "y"))}, []api.File{b("by"), a("xa")}},
		{[]api.File{b("bb"), a("aa")}, []api.Edit{edit(1, 2, "")}, []api.File{b("bb"), a("a")}},
		{[]api.File{{Text: "é\xff"}}, []api.Edit{{From: 1, To: 2, Text: "\x00"}}, []api.File{{Text: "\xc3\x00\xff"}}},
	} {
		if got, err := spans.Apply(x.files, x.l); err != api.OK || !slices.Equal(got, x.want) {
			t.Errorf("P1.4: number %d: %v, %d; want %v", i, got, err, x.want)
		}
	}
	lists(func(l []api.Edit) {
		var want []api.File
		code := api.ErrArg
		if !refused(l) {
			want, code = applied(letters(), l), api.OK
		}
		if got, err := spans.Apply(letters(), l); err != code || !slices.Equal(got, want) {
			t.Fatalf("P1.4: Apply of %v is %v, %d; want %v, %d", l, got, err, want, code)
		}
	})
}

func TestApplyRefuses(t *testing.T) {
	a, b := api.File{Path: "a", Text: "abc"}, api.File{Path: "b", Text: "abcdef"}
	for i, x := range []struct {
		files []api.File
		l     []api.Edit
	}{
		{[]api.File{a, a}, nil},
		{[]api.File{a, b, {Path: "a"}}, []api.Edit{of("b", edit(0, 1, ""))}},
		{[]api.File{a, b}, []api.Edit{edit(0, 2, ""), edit(1, 3, "")}},
		{[]api.File{a, b}, []api.Edit{edit(2, 1, "")}},
		{[]api.File{a, b}, []api.Edit{edit(-1, 1, "")}},
		{[]api.File{a, b}, []api.Edit{edit(0, 1, ""), of("c", edit(0, 0, ""))}},
		{[]api.File{a, b}, []api.Edit{of("", edit(0, 0, ""))}},
		{nil, []api.Edit{edit(0, 0, "")}},
		{[]api.File{a, b}, []api.Edit{edit(0, 4, "")}},
		{[]api.File{a, b}, []api.Edit{edit(4, 4, "x")}},
		{[]api.File{a, b}, []api.Edit{of("b", edit(0, 6, "")), edit(0, 1, ""), edit(2, 4, "")}},
		{[]api.File{a, b}, []api.Edit{edit(1, math.MaxInt, "")}},
		{[]api.File{a, b}, []api.Edit{edit(math.MaxInt, math.MaxInt, "")}},
	} {
		if got, err := spans.Apply(x.files, x.l); err != api.ErrArg || len(got) > 0 {
			t.Errorf("P1.4: number %d: %v, %d; want ErrArg alone", i, got, err)
		}
	}
}

func TestApplyManyEdits(t *testing.T) {
	const n = 20000
	var l []api.Edit
	var want strings.Builder
	for i := range n {
		number := strconv.Itoa(i)
		l = append(l, edit(2*i, 2*i+1, number))
		want.WriteString(number + "y")
	}
	slices.Reverse(l)
	got, err := spans.Apply([]api.File{{Path: "a", Text: strings.Repeat("xy", n)}}, l)
	if err != api.OK || len(got) != 1 || got[0].Text != want.String() {
		t.Errorf("P1.4: %d edits of one file: %d", n, err)
	}
}

// moved is Moved, as the document words it.
func moved(l []api.Edit, path string, at int) (int, bool) {
	if refused(l) || at < 0 {
		return 0, false
	}
	sum := at
	for _, e := range once(l) {
		if e.Path != path {
			continue
		}
		if e.From <= at && at < e.To {
			return 0, false
		}
		if e.To <= at {
			sum += len(e.Text) - (e.To - e.From)
		}
	}
	return sum, true
}

func TestMoved(t *testing.T) {
	x := edit(1, 3, "X")
	for i, c := range []struct {
		l    []api.Edit
		at   int
		want int
		ok   bool
	}{
		{nil, 0, 0, true}, {nil, 7, 7, true}, {nil, -1, 0, false}, {nil, math.MinInt, 0, false}, {nil, math.MaxInt, math.MaxInt, true},
		{[]api.Edit{x}, 0, 0, true}, {[]api.Edit{x}, 1, 0, false}, {[]api.Edit{x}, 2, 0, false}, {[]api.Edit{x}, 3, 2, true}, {[]api.Edit{x}, 5, 4, true}, {[]api.Edit{x}, -1, 0, false},
		{[]api.Edit{x, x}, 5, 4, true}, {[]api.Edit{edit(5, 6, ""), x}, 9, 7, true}, {[]api.Edit{edit(5, 6, ""), x}, 4, 3, true}, {[]api.Edit{edit(5, 6, ""), x}, 5, 0, false},
		{[]api.Edit{edit(4, 4, "ab")}, 3, 3, true}, {[]api.Edit{edit(4, 4, "ab")}, 4, 6, true}, {[]api.Edit{edit(4, 4, "é")}, 5, 7, true}, {[]api.Edit{edit(3, 3, "ab"), x}, 3, 4, true},
		{[]api.Edit{of("b", edit(0, 9, ""))}, 4, 4, true}, {[]api.Edit{x, edit(2, 4, "")}, 9, 0, false}, {[]api.Edit{x, edit(2, 4, "")}, 0, 0, false}, {[]api.Edit{of("b", edit(2, 1, ""))}, 0, 0, false},
		{[]api.Edit{edit(0, 2, "a")}, math.MaxInt, math.MaxInt - 1, true}, {[]api.Edit{edit(0, math.MaxInt, "ab")}, math.MaxInt, 2, true},
		{[]api.Edit{edit(0, 0, "ab"), edit(1, 3, "")}, math.MaxInt, math.MaxInt, true},
	} {
		if got, ok := spans.Moved(c.l, "a", c.at); got != c.want || ok != c.ok {
			t.Errorf("P1.5: number %d: Moved(%v, %d) is %d, %v; want %d, %v", i, c.l, c.at, got, ok, c.want, c.ok)
		}
	}
	lists(func(l []api.Edit) {
		for _, path := range []string{"a", "b", "c"} {
			for at := -1; at <= 5; at++ {
				want, there := moved(l, path, at)
				if got, ok := spans.Moved(l, path, at); got != want || ok != there {
					t.Fatalf("P1.5: Moved(%v, %s, %d) is %d, %v; want %d, %v", l, path, at, got, ok, want, there)
				}
			}
		}
	})
}

// outside are the byte numbers of the file that stand in no span of l.
func outside(f api.File, l []api.Edit) []int {
	var out []int
	for at := range len(f.Text) {
		if !slices.ContainsFunc(l, func(e api.Edit) bool { return e.Path == f.Path && e.From <= at && at < e.To }) {
			out = append(out, at)
		}
	}
	return out
}

// Bytes outside all spans are the same and stand in order, where Moved tells; the bytes between them are the Texts' alone.
func TestBytesOutsideAreKept(t *testing.T) {
	lists(func(l []api.Edit) {
		files := letters()
		got, err := spans.Apply(files, l)
		if err != api.OK {
			return
		}
		for i, f := range files {
			kept, last := outside(f, l), -1
			size := len(kept)
			for _, at := range kept {
				to, ok := spans.Moved(l, f.Path, at)
				if !ok || to <= last || to >= len(got[i].Text) || got[i].Text[to] != f.Text[at] {
					t.Fatalf("P1.6: %v: the byte %d of %s, at %d (%v) of %q", l, at, f.Path, to, ok, got[i].Text)
				}
				last = to
			}
			for _, e := range once(l) {
				if e.Path == f.Path {
					size += len(e.Text)
				}
			}
			if end, ok := spans.Moved(l, f.Path, len(f.Text)); !ok || end != size || len(got[i].Text) != size {
				t.Fatalf("P1.6: %v: %q ends at %d (%v); want %d", l, got[i].Text, end, ok, size)
			}
		}
	})
}

func TestEditsInAnyOrderAreOne(t *testing.T) {
	lists(func(l []api.Edit) {
		back := slices.Clone(l)
		slices.Reverse(back)
		again := append(slices.Clone(back), l...)
		s1, e1 := spans.Sorted(l)
		f1, g1 := spans.Apply(letters(), l)
		for _, other := range [][]api.Edit{back, again} {
			if s2, e2 := spans.Sorted(other); e1 != e2 || !slices.Equal(s1, s2) {
				t.Fatalf("P1.6: Sorted(%v) is %v, %d; Sorted(%v) is %v, %d", l, s1, e1, other, s2, e2)
			}
			if f2, g2 := spans.Apply(letters(), other); g1 != g2 || !slices.Equal(f1, f2) {
				t.Fatalf("P1.6: Apply of %v is %v, %d; of %v is %v, %d", l, f1, g1, other, f2, g2)
			}
		}
	})
}

// roomy is l in front of room that holds the spare element, and a copy of all of it.
func roomy[T any](l []T, spare T) (front, all, copied []T) {
	all = append(slices.Clone(l), spare, spare, spare)
	return all[:len(l)], all, slices.Clone(all)
}

func TestWhatIsHandedInStays(t *testing.T) {
	for _, l := range [][]api.Edit{
		{}, {edit(2, 3, "z")}, {edit(2, 3, "z"), edit(0, 1, "y")}, {edit(2, 3, "z"), edit(0, 1, "y"), edit(2, 3, "z")}, {edit(2, 3, "z"), edit(1, 3, "")}, {edit(2, 9, ""), edit(0, 0, "")}, {edit(3, 2, ""), edit(0, 0, "")},
	} {
		front, all, copied := roomy(l, edit(7, 8, "spare"))
		files, allFiles, copiedFiles := roomy(letters(), api.File{Path: "spare", Text: "spare"})
		spans.Sorted(front)
		spans.Apply(files, front)
		spans.Moved(front, "a", 2)
		if !slices.Equal(all, copied) || !slices.Equal(allFiles, copiedFiles) {
			t.Errorf("P1.7: %v has become %v, %v", copied, all, allFiles)
		}
	}
}

func TestWhatIsAnsweredIsNew(t *testing.T) {
	for _, l := range [][]api.Edit{{edit(2, 3, "z")}, {edit(0, 1, "y"), edit(2, 3, "z")}, {edit(2, 3, "z"), edit(0, 1, "y"), edit(0, 1, "y")}} {
		handed := slices.Clone(l)
		s1, _ := spans.Sorted(handed)
		s2, _ := spans.Sorted(handed)
		told := slices.Clone(s2)
		clear(s1[:cap(s1)])
		if !slices.Equal(handed, l) || !slices.Equal(s2, told) {
			t.Errorf("P1.7: Sorted(%v) shares its answer", l)
		}
		clear(handed)
		if !slices.Equal(s2, told) {
			t.Errorf("P1.7: Sorted(%v) keeps its argument", l)
		}
	}
	for _, l := range [][]api.Edit{nil, {edit(2, 3, "z")}} {
		files := letters()
		f1, _ := spans.Apply(files, l)
		f2, _ := spans.Apply(files, l)
		told := slices.Clone(f2)
		clear(f1[:cap(f1)])
		if !slices.Equal(files, letters()) || !slices.Equal(f2, told) {
			t.Errorf("P1.7: Apply of %v shares its answer", l)
		}
		clear(files)
		if !slices.Equal(f2, told) {
			t.Errorf("P1.7: Apply of %v keeps its files", l)
		}
	}
}
