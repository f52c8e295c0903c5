package heap_test

import (
	"go/parser"
	"go/token"
	"path/filepath"
	"slices"
	"strings"
	"testing"

	"daguerre/heap"
)

// whole gives a list with its spare room.
func whole(list []int32) []int32 { return list[:cap(list)] }

// scrawl writes over a list and its spare room.
func scrawl(list []int32) {
	for i := range whole(list) {
		whole(list)[i] = 99
	}
}

func someHeap(t *testing.T) (*heap.Heap, *book) {
	t.Helper()
	h, b := heap.New(50), &book{size: 50}
	for _, n := range []int{3, 0, 4} {
		at, _ := b.make(n+5, n)
		checkMake(t, h, n+5, n, at)
		for i := range n {
			h.Put(at, i, int32(10*at+i))
			b.put(at, i, int32(10*at+i))
		}
	}
	return h, b
}

func TestWordsAreACopy(t *testing.T) {
	h, b := someHeap(t)
	first, second := h.Words(), h.Words()
	scrawl(first)
	checkWhole(t, h, b)
	if !slices.Equal(second, b.words()) {
		t.Fatalf("another copy is now %v", second)
	}
	third := h.Words()
	_ = append(third, 1, 2, 3)
	b.make(7, 2)
	checkMake(t, h, 7, 2, 13)
	scrawl(third)
	checkWhole(t, h, b)
	// A copy stays as it was, too, whatever the heap is told.
	kept := h.Words()
	old := slices.Clone(kept)
	h.Put(0, 0, -5)
	h.Make(1, 1)
	if !slices.Equal(kept, old) || slices.Equal(h.Words(), old) {
		t.Fatalf("a copy is now %v; it was %v", kept, old)
	}
}

func TestWordsOfAnEmptyHeap(t *testing.T) {
	for _, h := range []*heap.Heap{heap.New(0), heap.New(40), mustOf(t, nil, 40), mustOf(t, make([]int32, 0, 40), 40)} {
		words := h.Words()
		if len(words) != 0 {
			t.Fatalf("Words %v", words)
		}
		scrawl(words)
		if h.Size() > 0 {
			checkMake(t, h, 3, 2, 0)
			scrawl(words)
			checkWhole(t, h, &book{40, []thing{{3, make([]int32, 2)}}})
		}
	}
}

func TestOfNeitherChangesNorKeepsWords(t *testing.T) {
	_, b := someHeap(t)
	words := b.words()
	for _, spare := range []int{0, 1, 20} {
		for _, grows := range []bool{false, true} {
			room := append(slices.Clone(words), slices.Repeat([]int32{-77}, spare)...)
			given, old := room[:len(words)], slices.Clone(room)
			h, now := mustOf(t, given, 50), read(given, 50)
			if !h.Put(0, 1, 1234) || !now.put(0, 1, 1234) {
				t.Fatal("Put")
			}
			if grows {
				now.make(7, 6)
				checkMake(t, h, 7, 6, 13)
			}
			if !slices.Equal(room, old) {
				t.Fatalf("what was handed in was %v, and is now %v", old, room)
			}
			scrawl(room)
			checkWhole(t, h, now)
		}
	}
}

func TestOfWordsThatAreNoneChangesNothing(t *testing.T) {
	for _, words := range [][]int32{{1, 1, 5, 9}, {1, 0, -1, 0, 2, 2}, {lastKind + 1, 0}, {0, 0, 0, 0}} {
		room := append(slices.Clone(words), -77, -77)
		old := slices.Clone(room)
		checkNoOf(t, room[:len(words)], 3)
		if !slices.Equal(room, old) {
			t.Fatalf("%v is now %v", old, room)
		}
	}
}

// Heaps that came from the same words, and those of New, go each its own way.
func TestHeapsAreApart(t *testing.T) {
	_, b := someHeap(t)
	words := b.words()
	first, second, third := mustOf(t, words, 50), mustOf(t, words, 50), heap.New(50)
	one, two, three := read(words, 50), read(words, 50), &book{size: 50}
	r := &numbers{11}
	for range 40 {
		step(t, r, first, one)
		step(t, r, second, two)
		step(t, r, third, three)
		checkHeap(t, first, one)
		checkHeap(t, second, two)
		checkHeap(t, third, three)
	}
}

// The same calls have the same answers, whatever other heaps were told.
func TestTheSameCallsHaveTheSameAnswers(t *testing.T) {
	tell := func() []int32 {
		r := &numbers{21}
		h := heap.New(300)
		var answers []int32
		for range 200 {
			at, ok := h.Make(r.below(11_000), r.below(12)-1)
			answers = append(answers, int32(at), int32(h.Used()))
			if ok {
				i := r.below(12) - 1
				h.Put(at, i, r.word())
				answers = append(answers, int32(h.Kind(at)), int32(h.Len(at)), h.Get(at, i), h.Get(at, i))
			}
		}
		return append(answers, h.Words()...)
	}
	first := tell()
	for range 5 {
		if again := tell(); !slices.Equal(again, first) {
			t.Fatal("the same calls had other answers")
		}
		heap.New(7).Make(1, 2)
	}
}

// The chapter says that the layer stands on api alone.
func TestStandsOnApiAlone(t *testing.T) {
	files, err := filepath.Glob("*.go")
	if err != nil {
		t.Fatal(err)
	}
	for _, name := range files {
		if strings.HasSuffix(name, "_test.go") {
			continue
		}
		tree, err := parser.ParseFile(token.NewFileSet(), name, nil, parser.ImportsOnly)
		if err != nil {
			t.Fatal(err)
		}
		for _, spec := range tree.Imports {
			if path := spec.Path.Value; strings.HasPrefix(path, `"daguerre/`) && path != `"daguerre/api"` {
				t.Errorf("%s imports %s", name, path)
			}
		}
	}
}
