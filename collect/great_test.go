package collect_test

import (
	"slices"
	"testing"

	"daguerre/collect"
	"daguerre/heap"
)

// row gives a full heap of n objects of one word each, in which each names the next one; the last one names the first.
func row(t *testing.T, n int) *heap.Heap {
	t.Helper()
	words := make([]int32, 0, 3*n)
	for k := range n {
		words = append(words, 1, 1, int32(3*((k+1)%n)+1))
	}
	return mustOf(t, words, 3*n)
}

// A ring as long as a heap may hold: what lives is not gone through by calls within calls.
func TestALongRing(t *testing.T) {
	n := most / 3
	h := row(t, n)
	words := h.Words()
	for _, k := range []int{0, 1, n / 2, n - 1} {
		checkAnswers(t, h, some, []int{3 * k}, words, []int{0})
	}
	checkAnswers(t, h, some, []int{3 * (n - 1), 0, 3*(n-1) + 1, 3 * n}, words, []int{0, 3, -1, -1})
	checkAnswers(t, h, none, []int{3 * 5}, []int32{1, 1, 3*6 + 1}, []int{0})
}

// The same ring, the other way about: its copy stands turned.
func TestALongRingTurned(t *testing.T) {
	n := most / 3
	words := make([]int32, 0, 3*n)
	for k := range n {
		words = append(words, 1, 1, int32(3*((k+n-1)%n)+1))
	}
	checkAnswers(t, mustOf(t, words, most), some, []int{3 * (n - 1)}, row(t, n).Words(), []int{0})
}

// As many objects as a heap may hold, each of them a root, and one of them as many roots.
func TestManyRoots(t *testing.T) {
	words := make([]int32, most)
	h := mustOf(t, words, most)
	roots := make([]int, 0, most/2)
	for at := 0; at < most; at += 2 {
		roots = append(roots, at)
	}
	checkAnswers(t, h, each, roots, words, roots)
	slices.Reverse(roots)
	places := slices.Clone(roots)
	slices.Reverse(places)
	checkAnswers(t, h, each, roots, words, places)
	same := slices.Repeat([]int{most - 2}, most)
	checkAnswers(t, h, each, same, []int32{0, 0}, make([]int, most))
}

// Long objects, full of references to one another.
func TestManyReferences(t *testing.T) {
	h := heap.New(most)
	n := most / 1002
	for k := range n {
		at, ok := h.Make(1, 1000)
		if !ok {
			t.Fatal("no room")
		}
		for i := range 1000 {
			h.Put(at, i, int32((k*7+i)%n*1002+1))
		}
	}
	g, places := collect.Copy(h, each, []int{0, 1002})
	if g.Used() != n*1002 || !slices.Equal(places, []int{0, 1002}) || collect.Live(h, each, []int{0, 1002}) != n*1002 {
		t.Fatalf("Used %d, places %v", g.Used(), places)
	}
	words := g.Words()
	for k := range n {
		for i := range 1000 {
			// The first object names all in their order, so that each keeps its place.
			if x := words[k*1002+2+i]; x != int32((k*7+i)%n*1002+1) {
				t.Fatalf("word %d of object %d is %d", i, k, x)
			}
		}
	}
}
