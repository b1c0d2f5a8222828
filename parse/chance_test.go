package parse_test

import (
	"fmt"
	"math/rand/v2"
	"reflect"
	"slices"
	"strings"
	"testing"

	"recast/api"
	"recast/parse"
	"recast/tree"
)

// bare is a tree in which a list of nothing is nil.
func bare(n api.Node) api.Node {
	var kids []api.Node
	for _, k := range n.Kids {
		kids = append(kids, bare(k))
	}
	n.Kids = kids
	return n
}

// shape is a tree as text, with its places.
func shape(n api.Node) string {
	l := []string{fmt.Sprintf("%s%q %d-%d", kindNames[n.Kind], n.Text, n.From, n.To)}
	for _, k := range n.Kids {
		l = append(l, shape(k))
	}
	return "(" + strings.Join(l, " ") + ")"
}

// written is a source that was written by chance, and its tree.
func written(seed uint64) (w *writer, form string, n api.Node) {
	w = newWriter(seed, 1+int(seed%70), seed%3 == 0)
	switch seed % 7 {
	case 0:
		return w, "ONLYTYPE", w.onlyType()
	case 1:
		return w, "ONLYEXPR", w.onlyExpr()
	}
	return w, "FILE", w.file()
}

// What was written is read as it was meant, with all places (P5.1, P5.2), and as P5.3 says.
func TestWritten(t *testing.T) {
	t.Parallel()
	kinds := map[int]int{}
	random := rand.New(rand.NewPCG(5, 3))
	for seed := range uint64(6000) {
		w, form, want := written(seed)
		src := w.src.String()
		n, fault := calls[form](src)
		if tree.Depth(want) > api.MaxNest {
			t.Fatalf("%d is too deep", seed)
		}
		if fault != (api.Fault{}) || !reflect.DeepEqual(bare(n), bare(want)) {
			t.Fatalf("P5.1: %s of\n%s\n got %v %s\nwant %s", form, src, fault, shape(n), shape(want))
		}
		ordered(t, src, n)
		if form == "FILE" {
			covers(t, src, n)
		}
		seeMoved(t, random, form, src)
		for _, x := range tree.All(n) {
			kinds[x.Kind]++
		}
	}
	for kind, name := range kindNames {
		if kinds[kind] < 50 {
			t.Errorf("%s was written %d times", name, kinds[kind])
		}
	}
}

// What was written and then broken, in one or two tokens, is held against the grammar.
func TestBroken(t *testing.T) {
	t.Parallel()
	random := rand.New(rand.NewPCG(5, 4))
	others := strings.Fields(`a b 1 "s" "{" ; , . : ... | ( ) [ ] { } = := += == * - & ! <- ++ && var const type func import struct interface chan if else for range switch select case default go defer return break`)
	readings := map[string]*reading{}
	for form := range calls {
		readings[form] = newReading(form)
	}
	faults := 0
	for seed := range uint64(2500) {
		w, form, _ := written(seed + 10000)
		texts := w.texts
		for range 1 + random.IntN(2) {
			texts = broken(random, texts, others)
		}
		src := strings.Join(texts, " ")
		want := faultOf(readings[form], src)
		n, got := calls[form](src)
		if got != want || (n.Kind == 0) != (want.Code != 0) {
			t.Fatalf("P5.1: %s of %q: %v, kind %d, want %v", form, src, got, n.Kind, want)
		}
		if want.Code != 0 {
			faults++
		}
	}
	if faults < 1000 {
		t.Errorf("%d faults", faults)
	}
}

// broken are tokens one of which is put in, left out, changed, changed with the next one, or the last.
func broken(random *rand.Rand, texts, others []string) []string {
	texts = slices.Clone(texts)
	if len(texts) < 2 {
		return texts
	}
	i := random.IntN(len(texts) - 1)
	other := others[random.IntN(len(others))]
	switch random.IntN(6) {
	case 0:
		return texts[:i]
	case 1:
		return slices.Delete(texts, i, i+1)
	case 2:
		texts[i], texts[i+1] = texts[i+1], texts[i]
		return texts
	case 3:
		texts[i] = other
		return texts
	}
	return slices.Insert(texts, i, other)
}

// Two answers of one source are the same, and changing one leaves the other; no two lists of one answer share
// memory, their spare room neither.
func TestAnswersAreNew(t *testing.T) {
	for seed := range uint64(300) {
		w, form, want := written(seed + 20000)
		src := w.src.String()
		first, _ := calls[form](src)
		second, _ := calls[form](src)
		spoilRoom(first)
		if got := shape(first); got != shape(want) {
			t.Fatalf("P5.4: with its spare room changed the tree of %q is %s", src, got)
		}
		spoil(first)
		third, _ := calls[form](src)
		if shape(second) != shape(want) || shape(third) != shape(want) {
			t.Fatalf("P5.4: with another answer changed the tree of %q is %s, then %s", src, shape(second), shape(third))
		}
	}
	first, _ := parse.File(whole)
	was := shape(first)
	spoilRoom(first)
	if shape(first) != was {
		t.Errorf("P5.4: with its spare room changed the tree is another")
	}
}

// spoilRoom changes the spare room of all lists.
func spoilRoom(n api.Node) {
	room := n.Kids[len(n.Kids):cap(n.Kids)]
	for i := range room {
		room[i] = api.Node{Kind: -1, Text: "spoilt", Kids: []api.Node{{Kind: -2}}}
	}
	for _, k := range n.Kids {
		spoilRoom(k)
	}
}

// spoil changes all nodes below n.
func spoil(n api.Node) {
	for i := range n.Kids {
		spoil(n.Kids[i])
		n.Kids[i] = api.Node{Kind: -1}
	}
}

// Whatever bytes come, there is one answer, and it is zero beside a fault.
func TestAnything(t *testing.T) {
	random := rand.New(rand.NewPCG(5, 6))
	alphabet := "ab01 \n\t;,.:|(){}[]<>=!&*+-/%\"\\\x00\xff\xc3\xa9if"
	for range 3000 {
		var b []byte
		for range random.IntN(60) {
			b = append(b, alphabet[random.IntN(len(alphabet))])
		}
		src := string(b)
		for name, call := range calls {
			n, fault := call(src)
			if again, other := call(src); fault != other || !reflect.DeepEqual(n, again) {
				t.Fatalf("W4: %s of %q is not always the same", name, src)
			}
			if fault.Code != 0 && (!reflect.DeepEqual(n, api.Node{}) || fault.Path != "" || fault.At < 0 || fault.At > len(src)) {
				t.Fatalf("P5.1: %s of %q is %v and %v", name, src, fault, n)
			}
			if fault.Code == 0 && n.Kind == 0 {
				t.Fatalf("P5.1: %s of %q is nothing", name, src)
			}
		}
	}
}
