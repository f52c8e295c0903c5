package heap_test

import (
	"testing"

	"daguerre/heap"
)

// step tells h and the book one thing, that may be or not, and holds what they answer against each other.
func step(t *testing.T, r *numbers, h *heap.Heap, b *book) {
	t.Helper()
	switch r.below(8) {
	case 0, 1, 2:
		kind, n := r.below(lastKind+1), r.below(12)
		at, _ := b.make(kind, n)
		checkMake(t, h, kind, n, at)
	case 3:
		kind, n := r.below(3)*lastKind/2+r.below(3)-1, r.below(3)*longest/2+r.below(3)-1
		at, _ := b.make(kind, n)
		checkMake(t, h, kind, n, at)
	case 4:
		checkMake(t, h, far[r.below(len(far))], 0, -1)
		checkMake(t, h, 0, far[r.below(len(far))], -1)
	default:
		at, i, x := r.below(b.size+6)-3, r.below(14)-2, r.word()
		want := b.put(at, i, x)
		if got := h.Put(at, i, x); got != want {
			t.Fatalf("Put(%d, %d, %d) = %v; want %v", at, i, x, got, want)
		}
	}
}

func TestMadeHeaps(t *testing.T) {
	for seed := range 150 {
		r := &numbers{uint64(seed) * 77}
		n := r.below(90)
		h, b := heap.New(n), bookOf(n)
		for range 60 {
			step(t, r, h, b)
			checkHeap(t, h, b)
		}
		checkOf(t, h.Words(), n)
	}
}

func TestMadeHeapsWithRoom(t *testing.T) {
	for seed := range 20 {
		r := &numbers{uint64(seed)*99 + 5}
		n := 2000 + r.below(3000)
		h, b := heap.New(n), bookOf(n)
		for i := range 200 {
			step(t, r, h, b)
			if i%40 == 39 {
				checkWhole(t, h, b)
			}
		}
		checkOf(t, h.Words(), n)
	}
}

// All orders of five lengths, in heaps from none to more than is asked for.
func TestEachSmallHeap(t *testing.T) {
	for size := range 19 {
		for way := range 5 * 5 * 5 * 5 {
			h, b := heap.New(size), bookOf(size)
			for k, left := 0, way; k < 4; k, left = k+1, left/5 {
				n := left % 5
				at, ok := b.make(k, n)
				checkMake(t, h, k, n, at)
				if ok && n > 0 {
					h.Put(at, n-1, int32(k+1))
					b.put(at, n-1, int32(k+1))
				}
			}
			checkHeap(t, h, b)
		}
	}
}
