package heap_test

import (
	"math"
	"slices"
	"testing"

	"daguerre/heap"
)

func TestNewTakesTheNearerEnd(t *testing.T) {
	for _, x := range []struct{ n, size int }{
		{0, 0}, {1, 1}, {2, 2}, {3, 3}, {1000, 1000}, {most - 1, most - 1}, {most, most},
		{most + 1, most}, {most + 2, most}, {2 * most, most}, {1<<32 + 5, most}, {math.MaxInt32 + 1, most}, {math.MaxInt - 1, most}, {math.MaxInt, most},
		{-1, 0}, {-2, 0}, {-most, 0}, {-1<<32 + 5, 0}, {math.MinInt32, 0}, {math.MinInt + 1, 0}, {math.MinInt, 0},
	} {
		h := heap.New(x.n)
		if h == nil || h.Size() != x.size || h.Used() != 0 || len(h.Words()) != 0 || h.Has(0) {
			t.Fatalf("New(%d): Size %d, Used %d, Words %v, Has %v", x.n, h.Size(), h.Used(), h.Words(), h.Has(0))
		}
		checkWhole(t, h, &book{size: x.size})
	}
}

func TestMakeWrittenOut(t *testing.T) {
	h := heap.New(20)
	checkMake(t, h, 7, 3, 0)
	checkMake(t, h, 0, 0, 5)
	checkMake(t, h, lastKind, 2, 7)
	checkMake(t, h, 7, 0, 11)
	checkMake(t, h, 1, 5, 13)
	checkMake(t, h, 1, 0, -1)
	if got, want := h.Words(), []int32{7, 3, 0, 0, 0, 0, 0, lastKind, 2, 0, 0, 7, 0, 1, 5, 0, 0, 0, 0, 0}; !slices.Equal(got, want) {
		t.Fatalf("Words %v; want %v", got, want)
	}
	if h.Used() != 20 || h.Size() != 20 {
		t.Fatalf("Used %d, Size %d", h.Used(), h.Size())
	}
}

func TestMakeOfKindsAndLengthsThatMayNotBe(t *testing.T) {
	h, b := heap.New(5000), &book{size: 5000}
	ask := func(kind, n int) {
		t.Helper()
		at, _ := b.make(kind, n)
		checkMake(t, h, kind, n, at)
		checkHeap(t, h, b)
	}
	wrong := func(end int) []int {
		return append(slices.Clone(far), end+1, end+2, end+1<<16, end+1<<32, 1<<32, 1<<16+1<<32)
	}
	for _, kind := range []int{0, 1, 255, 256, 9999, lastKind} {
		ask(kind, 0)
	}
	for _, n := range []int{0, 1, 2, 999, longest} {
		ask(3, n)
	}
	for _, kind := range wrong(lastKind) {
		ask(kind, 0)
		ask(kind, longest)
		ask(kind, longest+1)
	}
	for _, n := range wrong(longest) {
		ask(0, n)
		ask(lastKind, n)
	}
	ask(lastKind, longest)
	if b.size-len(b.words()) < 2+longest {
		t.Fatal("the heap is too full for this test to tell why nothing was made")
	}
}

// room gives a heap that has just so many words that are not used.
func room(t *testing.T, free int) (*heap.Heap, *book) {
	t.Helper()
	h, b := heap.New(9+free), &book{size: 9 + free}
	for _, n := range []int{4, 1} {
		at, _ := b.make(5, n)
		checkMake(t, h, 5, n, at)
	}
	for i := range 4 {
		if !h.Put(0, i, int32(-1-i)) || !b.put(0, i, int32(-1-i)) {
			t.Fatalf("Put(0, %d)", i)
		}
	}
	return h, b
}

func TestMakeWhereThereIsRoom(t *testing.T) {
	for _, n := range []int{0, 1, 2, 3, 17, 999, longest} {
		for _, free := range []int{n + 2, n + 3, n + 4} {
			h, b := room(t, free)
			b.make(6, n)
			checkMake(t, h, 6, n, 9)
			checkWhole(t, h, b)
		}
	}
}

func TestMakeWhereThereIsNoRoom(t *testing.T) {
	for _, n := range []int{0, 1, 2, 3, 17, 999, longest} {
		for _, free := range []int{n + 1, n, 1, 0} {
			h, b := room(t, free)
			checkMake(t, h, 6, n, -1)
			checkWhole(t, h, b)
			if free >= 2 && n > 0 {
				// What did not find room takes none.
				b.make(8, free-2)
				checkMake(t, h, 8, free-2, 9)
				checkWhole(t, h, b)
			}
		}
	}
}

func TestHeapsWithoutRoomForAnObject(t *testing.T) {
	for _, n := range []int{math.MinInt, -1, 0, 1} {
		h := heap.New(n)
		checkMake(t, h, 0, 0, -1)
		checkMake(t, h, 1, 1, -1)
		checkWhole(t, h, bookOf(n))
	}
	h := heap.New(2)
	checkMake(t, h, 0, 1, -1)
	checkMake(t, h, 0, 0, 0)
	checkMake(t, h, 0, 0, -1)
	checkWhole(t, h, &book{2, []thing{{}}})
}

// An object of kind 0 that holds nothing looks like noughts that another one holds.
func TestObjectsThatLookLikeNoughts(t *testing.T) {
	h, b := heap.New(24), &book{size: 24}
	for _, n := range []int{0, 4, 0, 0, 2, 1} {
		at, _ := b.make(0, n)
		checkMake(t, h, 0, n, at)
		checkWhole(t, h, b)
	}
	for _, at := range []int{0, 2, 8, 10, 12, 16} {
		if !h.Has(at) || h.Kind(at) != 0 {
			t.Fatalf("no object at %d", at)
		}
	}
	for _, at := range []int{1, 3, 4, 5, 6, 7, 9, 11, 13, 14, 15, 17, 18, 19, 20} {
		if h.Has(at) || h.Kind(at) != -1 {
			t.Fatalf("an object at %d", at)
		}
	}
}

func TestGetAndPutAtTheEnds(t *testing.T) {
	h := heap.New(30)
	checkMake(t, h, 1, 3, 0)
	checkMake(t, h, 2, 3, 5)
	checkMake(t, h, 3, 0, 10)
	for _, x := range []struct {
		at, i int
		there bool
	}{
		{0, 0, true}, {0, 1, true}, {0, 2, true}, {0, -1, false}, {0, -2, false}, {0, 3, false}, {0, 4, false}, {0, 5, false},
		{5, 0, true}, {5, 2, true}, {5, -1, false}, {5, -2, false}, {5, -3, false}, {5, -5, false}, {5, 3, false}, {5, 4, false},
		{10, 0, false}, {10, -1, false}, {10, -3, false}, {10, 1, false},
		{1, 0, false}, {2, 0, false}, {4, 0, false}, {4, 3, false}, {6, 0, false}, {9, 0, false}, {11, 0, false}, {12, 0, false}, {30, 0, false}, {-1, 0, false}, {-1, 1, false}, {-2, 2, false},
		{math.MaxInt, 0, false}, {math.MinInt, 0, false}, {math.MaxInt, math.MaxInt, false}, {math.MinInt, math.MinInt, false},
		{0, math.MaxInt, false}, {0, math.MinInt, false}, {5, math.MaxInt - 6, false}, {5, math.MinInt + 5, false}, {5, 1 << 32, false},
	} {
		if h.Put(x.at, x.i, 9) != x.there || (h.Get(x.at, x.i) == 9) != x.there || h.Put(x.at, x.i, 0) != x.there || h.Get(x.at, x.i) != 0 {
			t.Errorf("word %d at %d: %d", x.i, x.at, h.Get(x.at, x.i))
		}
	}
	if got, want := h.Words(), []int32{1, 3, 0, 0, 0, 2, 3, 0, 0, 0, 3, 0}; !slices.Equal(got, want) {
		t.Fatalf("Words %v; want %v", got, want)
	}
}

// Each word in turn takes numbers that would do as a kind, a length, a place, or none of these.
func TestPutTurnsNoOtherWord(t *testing.T) {
	h, b := heap.New(40), &book{size: 40}
	for _, n := range []int{3, 0, 1, 6, 0, 2} {
		at, _ := b.make(n+1, n)
		checkMake(t, h, n+1, n, at)
	}
	for at := range 40 {
		for i := range h.Len(at) {
			for _, x := range []int32{-1, 1, 2, 5, lastKind, lastKind + 1, math.MaxInt32, math.MinInt32, int32(100*at + i)} {
				if !h.Put(at, i, x) || !b.put(at, i, x) || h.Get(at, i) != x {
					t.Fatalf("Put(%d, %d, %d): %d", at, i, x, h.Get(at, i))
				}
				checkHeap(t, h, b)
			}
		}
	}
	checkMake(t, h, 9, 14, 24)
	b.make(9, 14)
	checkWhole(t, h, b)
}

func TestTheGreatestHeap(t *testing.T) {
	for _, n := range []int{most, most + 1, math.MaxInt} {
		h := heap.New(n)
		for i := range most / (longest + 2) {
			checkMake(t, h, i, longest, i*(longest+2))
		}
		free := most % (longest + 2)
		checkMake(t, h, 1, longest, -1)
		checkMake(t, h, 1, free-1, -1)
		checkMake(t, h, 1, free-2, most-free)
		checkMake(t, h, 0, 0, -1)
		if !h.Put(most-free, free-3, 5) || h.Put(most-free, free-2, 6) || h.Get(most-free, free-3) != 5 {
			t.Fatal("the last word of all")
		}
		words := h.Words()
		if h.Used() != most || h.Size() != most || len(words) != most || words[most-1] != 5 {
			t.Fatalf("Used %d, Size %d, %d Words", h.Used(), h.Size(), len(words))
		}
		again := mustOf(t, words, n)
		if !slices.Equal(again.Words(), words) || again.Size() != most {
			t.Fatal("Of the greatest heap's words")
		}
	}
}

func TestAsManyObjectsAsMayBe(t *testing.T) {
	h := heap.New(most)
	for i := range most / 2 {
		if at, ok := h.Make(i%(lastKind+1), 0); at != 2*i || !ok {
			t.Fatalf("Make %d: %d, %v", i, at, ok)
		}
	}
	checkMake(t, h, 0, 0, -1)
	for at := range most + 1 {
		there := at%2 == 0 && at < most
		if h.Has(at) != there || there && h.Kind(at) != at/2%(lastKind+1) {
			t.Fatalf("at %d: %v, %d", at, h.Has(at), h.Kind(at))
		}
	}
	mustOf(t, h.Words(), most)
	checkNoOf(t, h.Words(), most-1)
}

func TestEachCallOfNil(t *testing.T) {
	var h *heap.Heap
	list := append(slices.Clone(far), 0, 1, 2, 3, longest, lastKind)
	for _, a := range list {
		for _, b := range list {
			if at, ok := h.Make(a, b); at != -1 || ok {
				t.Fatalf("Make(%d, %d) = %d, %v", a, b, at, ok)
			}
			if h.Get(a, b) != 0 || h.Put(a, b, 1) {
				t.Fatalf("Get, Put(%d, %d)", a, b)
			}
		}
		if h.Has(a) || h.Kind(a) != -1 || h.Len(a) != 0 {
			t.Fatalf("at %d: %v, %d, %d", a, h.Has(a), h.Kind(a), h.Len(a))
		}
	}
	if h.Used() != 0 || h.Size() != 0 || h.Words() != nil {
		t.Fatalf("Used %d, Size %d, Words %v", h.Used(), h.Size(), h.Words())
	}
}

// A Heap that no New made has no room.
func TestEachCallOfAnEmptyHeap(t *testing.T) {
	var h heap.Heap
	checkMake(t, &h, 0, 0, -1)
	checkWhole(t, &h, &book{})
}
