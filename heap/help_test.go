package heap_test

import (
	"math"
	"slices"
	"testing"

	"daguerre/heap"
)

const (
	most     = 1 << 20 // words of a heap
	longest  = 1000
	lastKind = 10_000
)

// A thing is an object as the book has it: a list of its own.
type thing struct {
	kind  int
	words []int32
}

// A book keeps things and no places: it reckons those anew each time.
type book struct {
	size   int
	things []thing
}

func bookOf(n int) *book {
	switch {
	case n < 0:
		return &book{}
	case n > most:
		return &book{size: most}
	}
	return &book{size: n}
}

func (b *book) words() []int32 {
	var list []int32
	for _, x := range b.things {
		list = append(list, int32(x.kind), int32(len(x.words)))
		list = append(list, x.words...)
	}
	return list
}

// find gives the thing at that place, or nil.
func (b *book) find(at int) *thing {
	place := 0
	for i := range b.things {
		if place == at {
			return &b.things[i]
		}
		place += 2 + len(b.things[i].words)
	}
	return nil
}

func (b *book) make(kind, n int) (int, bool) {
	used := len(b.words())
	if kind < 0 || kind > lastKind || n < 0 || n > longest || used+2+n > b.size {
		return -1, false
	}
	b.things = append(b.things, thing{kind, make([]int32, n)})
	return used, true
}

func (b *book) put(at, i int, x int32) bool {
	o := b.find(at)
	if o == nil || i < 0 || i >= len(o.words) {
		return false
	}
	o.words[i] = x
	return true
}

// read gives the book that has those words, thing by thing; nil: there is none.
func read(words []int32, n int) *book {
	b := bookOf(n)
	if len(words) > b.size {
		return nil
	}
	for len(words) > 0 {
		if len(words) == 1 || words[0] < 0 || words[0] > lastKind || words[1] < 0 || words[1] > longest || int(words[1]) > len(words)-2 {
			return nil
		}
		end := 2 + int(words[1])
		b.things = append(b.things, thing{int(words[0]), slices.Clone(words[2:end])})
		words = words[end:]
	}
	return b
}

// far are numbers that are no place in a heap, and no word of an object, and some that would be one if they were cut to fewer bits or went round.
var far = farNumbers()

func farNumbers() []int {
	list := []int{math.MinInt, math.MinInt + 1, math.MinInt + 2, math.MaxInt, math.MaxInt - 1, math.MaxInt - 2, math.MaxInt - 3, most, most + 1, -most, -1, -2, -3, -1000}
	for _, bits := range []int{31, 32, 33, 62} {
		for d := -4; d <= 4; d++ {
			list = append(list, 1<<bits+d, -1<<bits+d)
		}
	}
	return list
}

// checkHeap asks h all that it can be asked, at each place up to some behind its end, and at those that are far.
func checkHeap(t *testing.T, h *heap.Heap, b *book) {
	t.Helper()
	words := b.words()
	if h.Size() != b.size || h.Used() != len(words) || !slices.Equal(h.Words(), words) {
		t.Fatalf("Size %d, Used %d, Words %v; want %d, %d, %v", h.Size(), h.Used(), h.Words(), b.size, len(words), words)
	}
	for _, at := range far {
		checkNoThing(t, h, at)
	}
	for at := -4; at < 0; at++ {
		checkNoThing(t, h, at)
	}
	at := 0
	for _, o := range b.things {
		checkThing(t, h, at, o)
		for i := range 1 + len(o.words) {
			checkNoThing(t, h, at+1+i)
		}
		at += 2 + len(o.words)
	}
	for d := range 5 {
		checkNoThing(t, h, at+d)
	}
}

func checkThing(t *testing.T, h *heap.Heap, at int, o thing) {
	t.Helper()
	if !h.Has(at) || h.Kind(at) != o.kind || h.Len(at) != len(o.words) {
		t.Fatalf("at %d: Has %v, Kind %d, Len %d; want kind %d, %d words", at, h.Has(at), h.Kind(at), h.Len(at), o.kind, len(o.words))
	}
	for i, x := range o.words {
		if got := h.Get(at, i); got != x {
			t.Fatalf("Get(%d, %d) = %d; want %d", at, i, got, x)
		}
	}
	for d := range 5 {
		checkNoWord(t, h, at, -1-d)
		checkNoWord(t, h, at, len(o.words)+d)
	}
	for _, i := range far {
		checkNoWord(t, h, at, i)
	}
	for i := -4; i <= 4; i++ {
		// Together these would name a word that there is.
		checkNoWord(t, h, at-most, most+i)
		checkNoWord(t, h, at+most, i-most)
	}
}

func checkNoThing(t *testing.T, h *heap.Heap, at int) {
	t.Helper()
	if h.Has(at) || h.Kind(at) != -1 || h.Len(at) != 0 {
		t.Fatalf("at %d: Has %v, Kind %d, Len %d; there is none", at, h.Has(at), h.Kind(at), h.Len(at))
	}
	for i := -3; i <= 2; i++ {
		checkNoWord(t, h, at, i)
	}
}

// checkNoWord puts nothing: a Put that wrote a word would be seen by the next checkHeap.
func checkNoWord(t *testing.T, h *heap.Heap, at, i int) {
	t.Helper()
	if got := h.Get(at, i); got != 0 || h.Put(at, i, 77) {
		t.Fatalf("Get(%d, %d) = %d, or Put took it; it is no word", at, i, got)
	}
}

// checkWhole asks twice: the first time tries to put words that are not there.
func checkWhole(t *testing.T, h *heap.Heap, b *book) {
	t.Helper()
	checkHeap(t, h, b)
	checkHeap(t, h, b)
}

func checkMake(t *testing.T, h *heap.Heap, kind, n, want int) {
	t.Helper()
	if at, ok := h.Make(kind, n); at != want || ok != (want >= 0) {
		t.Fatalf("Make(%d, %d) = %d, %v; want %d", kind, n, at, ok, want)
	}
}

func mustOf(t *testing.T, words []int32, n int) *heap.Heap {
	t.Helper()
	h, ok := heap.Of(words, n)
	if !ok || h == nil {
		t.Fatalf("Of(%d words, %d) = %v, %v", len(words), n, h, ok)
	}
	return h
}

func checkNoOf(t *testing.T, words []int32, n int) {
	t.Helper()
	if h, ok := heap.Of(words, n); ok || h != nil {
		t.Fatalf("Of(%d words, %d) = %v, %v; want nil, false", len(words), n, h, ok)
	}
}

// checkOf holds Of against read; what there is is asked, too.
func checkOf(t *testing.T, words []int32, n int) {
	t.Helper()
	b := read(words, n)
	if b == nil {
		checkNoOf(t, words, n)
		return
	}
	checkWhole(t, mustOf(t, words, n), b)
}

// numbers gives numbers in a row that looks like none.
type numbers struct{ x uint64 }

// below gives a number from 0 to n-1.
func (r *numbers) below(n int) int {
	r.x = r.x*6364136223846793005 + 1442695040888963407
	return int(r.x>>33) % n
}

func (r *numbers) word() int32 {
	// A shift of its own makes small numbers and great ones.
	return int32(r.below(1<<31)*2+r.below(2)) >> r.below(32)
}
