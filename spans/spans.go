// Package spans is bytes, places and edits: see DOC.md, chapter 1.
package spans

import (
	"cmp"
	"slices"
	"strings"
	"unicode/utf8"

	"recast/api"
)

// lineEnd is the byte that ends a line.
const lineEnd = '\n'

// Valid tells whether it is UTF-8 without a byte 0.
func Valid(s string) bool {
	return utf8.ValidString(s) && strings.IndexByte(s, 0) < 0
}

// Place is a byte's line and column.
func Place(s string, at int) (line, col int) {
	at = clamped(s, at)
	line, begin := lineOf(s, at)
	return line, at - begin + 1
}

// Offset is the byte of a line and column.
func Offset(s string, line, col int) (at int, ok bool) {
	if line < 1 || col < 1 {
		return 0, false
	}
	rest := s
	for ; line > 1; line-- {
		end := strings.IndexByte(rest, lineEnd)
		if end < 0 {
			return 0, false
		}
		rest = rest[end+1:]
	}
	last := strings.IndexByte(rest, lineEnd)
	if last < 0 {
		last = len(rest)
	}
	// Compared ahead of adding: a column near the greatest int must not wrap round.
	if col-1 > last {
		return 0, false
	}
	return len(s) - len(rest) + col - 1, true
}

// Indent is the blanks of a line.
func Indent(s string, at int) string {
	_, begin := lineOf(s, clamped(s, at))
	text := s[begin:]
	return text[:len(text)-len(strings.TrimLeft(text, " \t"))]
}

// Sorted sorts edits that do not clash.
func Sorted(l []api.Edit) ([]api.Edit, api.Errno) {
	if slices.ContainsFunc(l, noSpan) {
		return nil, api.ErrArg
	}
	sorted := slices.Clone(l)
	slices.SortFunc(sorted, inOrder)
	sorted = slices.Compact(sorted)
	for i := 1; i < len(sorted); i++ {
		if clash(sorted[i-1], sorted[i]) {
			return nil, api.ErrArg
		}
	}
	return sorted, api.OK
}

// Apply applies edits.
func Apply(files []api.File, l []api.Edit) ([]api.File, api.Errno) {
	numbers := map[string]int{}
	for i, f := range files {
		numbers[f.Path] = i
	}
	rest, err := Sorted(l)
	if len(numbers) < len(files) || err != api.OK {
		return nil, api.ErrArg
	}
	edited := slices.Clone(files)
	for len(rest) > 0 {
		n := ofOnePath(rest)
		i, known := numbers[rest[0].Path]
		// The last To of a path is its greatest, as none of its edits clash.
		if !known || rest[n-1].To > len(files[i].Text) {
			return nil, api.ErrArg
		}
		edited[i].Text = replaced(files[i].Text, rest[:n])
		rest = rest[n:]
	}
	return edited, api.OK
}

// Moved is where a byte stands then.
func Moved(l []api.Edit, path string, at int) (int, bool) {
	sorted, err := Sorted(l)
	if err != api.OK || at < 0 {
		return 0, false
	}
	moved := at
	for _, e := range sorted {
		if e.Path != path || e.From > at {
			continue
		}
		if at < e.To {
			return 0, false
		}
		moved += len(e.Text) - (e.To - e.From)
	}
	return moved, true
}

// clamped is the byte number of s that at counts as.
func clamped(s string, at int) int {
	return min(max(at, 0), len(s))
}

// lineOf is the line of a byte number of s, and where that line begins.
func lineOf(s string, at int) (line, begin int) {
	line = 1
	// Bytes that are no UTF-8 come one by one, so a line's end is never within a rune.
	for i, r := range s[:at] {
		if r == lineEnd {
			line, begin = line+1, i+1
		}
	}
	return line, begin
}

// noSpan tells whether an edit's From and To are no span.
func noSpan(e api.Edit) bool {
	return e.From < 0 || e.From > e.To
}

// inOrder compares no Text: edits of one Path and From are the same in all, or clash.
func inOrder(a, b api.Edit) int {
	return cmp.Or(
		cmp.Compare(a.Path, b.Path),
		cmp.Compare(a.From, b.From),
		cmp.Compare(a.To, b.To),
	)
}

// clash tells whether an edit and the next one, in order, clash. Where no neighbours do, no two edits do: each one's To is then at most the next one's From.
func clash(a, b api.Edit) bool {
	return a.Path == b.Path && (a.From == b.From || a.To > b.From)
}

// ofOnePath is how many of the edits, from the first one on, have its path.
func ofOnePath(l []api.Edit) int {
	n := slices.IndexFunc(l, func(e api.Edit) bool { return e.Path != l[0].Path })
	if n < 0 {
		return len(l)
	}
	return n
}

// replaced is the text with sorted edits of it made.
func replaced(text string, l []api.Edit) string {
	var pieces []string
	done := 0
	for _, e := range l {
		pieces = append(pieces, text[done:e.From], e.Text)
		done = e.To
	}
	return joined(append(pieces, text[done:])...)
}

// joined is the pieces as one text.
func joined(pieces ...string) string {
	return strings.Join(pieces, "")
}
