package heap_test

import (
	"math"
	"slices"
	"testing"

	"daguerre/heap"
)

func TestOfWrittenOut(t *testing.T) {
	for _, x := range []struct {
		words []int32
		n     int
		ok    bool
	}{
		{nil, 0, true}, {nil, 5, true}, {nil, -1, true}, {nil, math.MinInt, true}, {nil, math.MaxInt, true}, {[]int32{}, 0, true},
		{[]int32{0}, 1, false}, {[]int32{0}, 9, false}, {[]int32{5}, 9, false}, {[]int32{-1}, 9, false},
		{[]int32{0, 0}, 2, true}, {[]int32{0, 0}, 1, false}, {[]int32{0, 0}, 0, false}, {[]int32{0, 0}, -1, false}, {[]int32{0, 0}, -2, false}, {[]int32{0, 0}, math.MinInt, false}, {[]int32{0, 0}, math.MaxInt, true},
		{[]int32{lastKind, 0}, 9, true}, {[]int32{lastKind + 1, 0}, 9, false}, {[]int32{-1, 0}, 9, false}, {[]int32{math.MaxInt32, 0}, 9, false}, {[]int32{math.MinInt32, 0}, 9, false},
		{[]int32{0, 1}, 9, false}, {[]int32{0, 1, 5}, 9, true}, {[]int32{0, 2, 5}, 9, false}, {[]int32{0, 0, 5}, 9, false}, {[]int32{0, -1}, 9, false}, {[]int32{0, -1, 5}, 9, false}, {[]int32{0, -2, 0, 0}, 9, false},
		{[]int32{0, math.MaxInt32, 5}, 9, false}, {[]int32{0, math.MinInt32, 5}, 9, false}, {[]int32{0, math.MaxInt32 - 1, 5}, 9, false},
		{[]int32{0, 1, -5, 7, 0}, 5, true}, {[]int32{0, 1, -5, 7, 0}, 4, false}, {[]int32{0, 1, -5, 7}, 9, false}, {[]int32{0, 1, -5, 7, 1}, 9, false}, {[]int32{0, 1, -5, 7, 1, 3}, 9, true},
		{[]int32{0, 1, -5, -1, 0}, 9, false}, {[]int32{0, 1, -5, lastKind, 0}, 9, true}, {[]int32{0, 1, -5, lastKind + 1, 0}, 9, false}, {[]int32{0, 1, -5, 7, -1}, 9, false},
		{[]int32{1, 0, 2, 0, 3, 0}, 6, true}, {[]int32{1, 0, 2, 0, 3}, 6, false}, {[]int32{1, 0, 2, 1, 3, 0}, 6, false}, {[]int32{1, 2, 2, 0, 3, 0}, 6, true}, {[]int32{1, 4, 2, 0, 3, 0}, 6, true}, {[]int32{1, 5, 2, 0, 3, 0}, 6, false},
	} {
		if h, ok := heap.Of(x.words, x.n); ok != x.ok || (h != nil) != x.ok {
			t.Errorf("Of(%v, %d) = %v, %v", x.words, x.n, h, ok)
		}
		checkOf(t, x.words, x.n)
	}
}

func TestOfTheLongestObject(t *testing.T) {
	for n := longest - 2; n <= longest+2; n++ {
		for _, more := range []int{-2, -1, 0, 1, 2, 3} {
			words := make([]int32, 2+n+more)
			words[0], words[1] = 4, int32(n)
			checkOf(t, words, 2000)
		}
		words := append([]int32{3, 1, 8, 4, int32(n)}, make([]int32, n)...)
		if h, ok := heap.Of(words, 2000); ok != (n <= longest) || (h != nil) != ok {
			t.Fatalf("Of an object of %d words: %v", n, ok)
		}
	}
}

// full gives n words of objects that hold just so many words each, the last one fewer.
func full(n, each int) []int32 {
	words := make([]int32, n)
	for at := 0; at < n; at += each + 2 {
		words[at+1] = int32(min(each, n-at-2))
	}
	return words
}

func TestOfMoreWordsThanTheHeapHas(t *testing.T) {
	for _, n := range []int{2, 3, 10, 999} {
		words := full(n, n)
		for _, size := range []int{n, n + 1, n + 1000, most, most + 1, math.MaxInt} {
			checkOf(t, words, size)
			mustOf(t, words, size)
		}
		for _, size := range []int{n - 1, n - 2, 1, 0, -1, -n, math.MinInt, n - 1<<32} {
			checkNoOf(t, words, size)
		}
	}
	for _, each := range []int{0, 2, 510} {
		words := full(most, each)
		for _, size := range []int{most, most + 1, 2 * most, math.MaxInt} {
			if h := mustOf(t, words, size); h.Size() != most || h.Used() != most || !slices.Equal(h.Words(), words) {
				t.Fatalf("Of(%d words, %d): Size %d, Used %d", most, size, h.Size(), h.Used())
			}
		}
		checkNoOf(t, words, most-1)
		for _, more := range [][]int32{{0, 0}, {1, 1, 5}, {0}} {
			for _, size := range []int{most, most + 1, most + 2, most + 3, 2 * most, math.MaxInt} {
				checkNoOf(t, append(slices.Clone(words), more...), size)
			}
		}
	}
}

// All lists of up to six words of these, in heaps that are too small, just enough and greater.
func TestOfEachSmallList(t *testing.T) {
	values := []int32{-1, 0, 1, 2, 4, lastKind, lastKind + 1}
	var each func(words []int32, left int)
	each = func(words []int32, left int) {
		for n := len(words) - 1; n <= len(words)+1; n++ {
			b := read(words, n)
			h, ok := heap.Of(words, n)
			if ok != (b != nil) || (h != nil) != ok {
				t.Fatalf("Of(%v, %d) = %v, %v", words, n, h, ok)
			}
			if ok && len(words) < 6 {
				checkHeap(t, h, b)
			}
		}
		if left == 0 {
			return
		}
		for _, x := range values {
			each(append(slices.Clone(words), x), left-1)
		}
	}
	each(nil, 6)
}

// One word of a heap that may be is turned, or the end is cut off, or something stands behind it.
func TestOfWordsWithOneThingTurned(t *testing.T) {
	r := &numbers{3}
	for range 60 {
		b := &book{size: 60}
		for range 8 {
			b.make(r.below(lastKind+1), r.below(6))
		}
		words := b.words()
		for i := range words {
			for _, x := range []int32{-1, 0, 1, 2, 3, 5, longest, longest + 1, lastKind, lastKind + 1, math.MaxInt32, math.MinInt32, words[i] + 1, words[i] - 1} {
				turned := slices.Clone(words)
				turned[i] = x
				want := read(turned, 60)
				h, ok := heap.Of(turned, 60)
				if ok != (want != nil) || (h != nil) != ok || ok && !slices.Equal(h.Words(), turned) {
					t.Fatalf("Of(%v) = %v, %v", turned, h, ok)
				}
			}
			checkOf(t, words[:i:i], 60)
		}
		checkOf(t, append(slices.Clone(words), 0), 62)
		checkOf(t, append(slices.Clone(words), 0, 0), 62)
		checkOf(t, append(slices.Clone(words), 0, 1), 62)
	}
}

// A heap of Of is told and asked the same as one of New that came to have the same words.
func TestAHeapOfOfGoesOn(t *testing.T) {
	for seed := range 200 {
		r := &numbers{uint64(seed)}
		h, b := heap.New(120), &book{size: 120}
		for range 1 + r.below(12) {
			step(t, r, h, b)
		}
		g := mustOf(t, h.Words(), 120)
		other := read(h.Words(), 120)
		checkWhole(t, g, other)
		for range 30 {
			kind, n := r.below(40), r.below(8)
			at, ok := h.Make(kind, n)
			checkMake(t, g, kind, n, at)
			b.make(kind, n)
			if ok && n > 0 {
				i, x := r.below(n), r.word()
				if !h.Put(at, i, x) || !g.Put(at, i, x) || !b.put(at, i, x) {
					t.Fatalf("Put(%d, %d)", at, i)
				}
			}
		}
		checkWhole(t, h, b)
		checkWhole(t, g, b)
	}
}

func FuzzOf(f *testing.F) {
	f.Add([]byte{}, 0)
	f.Add([]byte{0, 0, 0, 0}, 2)
	f.Add([]byte{0, 5, 0, 1, 0, 9, 0x27, 0x10, 0, 0}, 9)
	f.Add([]byte{0, 5, 0xff, 0xff}, -1)
	f.Fuzz(func(t *testing.T, data []byte, n int) {
		var words []int32
		for i := 0; i+1 < len(data) && i < 3000; i += 2 {
			words = append(words, int32(int16(uint16(data[i])<<8|uint16(data[i+1]))))
		}
		checkOf(t, words, n)
	})
}
