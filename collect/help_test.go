package collect_test

import (
	"math"
	"slices"
	"testing"

	"daguerre/collect"
	"daguerre/heap"
)

const most = 1 << 20 // words of a heap

type asker = func(kind, i int) bool

// each says that all words are references.
func each(kind, i int) bool { return true }

// none says that no word is one.
func none(kind, i int) bool { return false }

// some: of the kind 1 all words are references, of 2 the second one alone, of 4 those at even places.
func some(kind, i int) bool { return kind == 1 || kind == 2 && i == 1 || kind == 4 && i%2 == 0 }

// far are numbers that are no place in a heap, and some that would be one if they were cut to fewer bits or went round.
func far() []int {
	list := []int{math.MinInt, math.MinInt + 1, math.MaxInt, math.MaxInt - 1, most, most + 1, most - 1, -most, -2, -3, -1000}
	for _, bits := range []int{20, 31, 32, 33, 62} {
		for d := -6; d <= 6; d++ {
			list = append(list, 1<<bits+d, -1<<bits+d)
		}
	}
	return list
}

func mustOf(t *testing.T, words []int32, n int) *heap.Heap {
	t.Helper()
	h, ok := heap.Of(words, n)
	if !ok {
		t.Fatalf("Of(%v, %d)", words, n)
	}
	return h
}

// checkAnswers asks Copy and Live, and holds all that they answer against what is handed in.
func checkAnswers(t *testing.T, h *heap.Heap, refs asker, roots []int, words []int32, places []int) *heap.Heap {
	t.Helper()
	was, size, given := h.Words(), h.Size(), slices.Clone(roots)
	g, told := collect.Copy(h, refs, roots)
	if g == nil || !slices.Equal(g.Words(), words) || !slices.Equal(told, places) {
		t.Fatalf("Copy of %v, roots %v: %v, %v; want %v, %v", was, given, g.Words(), told, words, places)
	}
	if g == h || g.Size() != size || g.Used() != len(words) {
		t.Fatalf("Copy of %v, roots %v: Size %d, Used %d; want %d, %d", was, given, g.Size(), g.Used(), size, len(words))
	}
	if n := collect.Live(h, refs, roots); n != len(words) {
		t.Fatalf("Live of %v, roots %v: %d; want %d", was, given, n, len(words))
	}
	if !slices.Equal(h.Words(), was) || h.Size() != size {
		t.Fatalf("the elder heap was %v, %d, and is now %v, %d", was, size, h.Words(), h.Size())
	}
	if !slices.Equal(roots, given) {
		t.Fatalf("the roots were %v, and are now %v", given, roots)
	}
	return g
}

// check holds Copy and Live against the book.
func check(t *testing.T, h *heap.Heap, refs asker, roots []int) *heap.Heap {
	t.Helper()
	words, places := read(h.Words()).copied(refs, roots)
	return checkAnswers(t, h, refs, roots, words, places)
}

// numbers gives numbers in a row that looks like none.
type numbers struct{ x uint64 }

// below gives a number from 0 to n-1.
func (r *numbers) below(n int) int {
	r.x = r.x*6364136223846793005 + 1442695040888963407
	return int(r.x>>33) % n
}
