package collect_test

import (
	"math"
	"slices"
	"testing"

	"daguerre/collect"
	"daguerre/heap"
)

// five gives a heap of five objects with room for more: at 0 one that names those at 12, 5, 12; at 5 one whose second word names the one at 9; at 9 numbers; at 12 one that names itself; at 15 one that nothing names, and that names those at 0, 5.
func five(t *testing.T) *heap.Heap {
	t.Helper()
	h := heap.New(30)
	for _, o := range [][]int32{{1, 13, 6, 13}, {2, 77, 10}, {3, 13}, {1, 13}, {1, 1, 6}} {
		at, ok := h.Make(int(o[0]), len(o)-1)
		for i, x := range o[1:] {
			ok = ok && h.Put(at, i, x)
		}
		if !ok {
			t.Fatal("no heap")
		}
	}
	if !slices.Equal(h.Words(), []int32{1, 3, 13, 6, 13, 2, 2, 77, 10, 3, 1, 13, 1, 1, 13, 1, 2, 1, 6}) {
		t.Fatalf("another heap: %v", h.Words())
	}
	return h
}

func TestRootsWrittenOut(t *testing.T) {
	h := five(t)
	for _, x := range []struct {
		roots  []int
		words  []int32
		places []int
	}{
		{nil, nil, nil},
		{[]int{}, nil, nil},
		{[]int{-1}, nil, []int{-1}},
		{[]int{-1, -1, -1}, nil, []int{-1, -1, -1}},
		{[]int{12}, []int32{1, 1, 1}, []int{0}},
		{[]int{9}, []int32{3, 1, 13}, []int{0}},
		{[]int{5}, []int32{2, 2, 77, 5, 3, 1, 13}, []int{0}},
		{[]int{0}, []int32{1, 3, 6, 9, 6, 1, 1, 6, 2, 2, 77, 13, 3, 1, 13}, []int{0}},
		{[]int{15}, []int32{1, 2, 5, 10, 1, 3, 14, 10, 14, 2, 2, 77, 17, 1, 1, 14, 3, 1, 13}, []int{0}},
		{[]int{12, 9}, []int32{1, 1, 1, 3, 1, 13}, []int{0, 3}},
		{[]int{9, 12}, []int32{3, 1, 13, 1, 1, 4}, []int{0, 3}},
		{[]int{9, 5}, []int32{3, 1, 13, 2, 2, 77, 1}, []int{0, 3}},
		{[]int{5, 9}, []int32{2, 2, 77, 5, 3, 1, 13}, []int{0, 4}},
		{[]int{5, 12}, []int32{2, 2, 77, 8, 1, 1, 5, 3, 1, 13}, []int{0, 4}},
		{[]int{12, 12}, []int32{1, 1, 1}, []int{0, 0}},
		{[]int{9, 12, 9, 9, 12}, []int32{3, 1, 13, 1, 1, 4}, []int{0, 3, 0, 0, 3}},
		{[]int{-1, 12, -1, 9, -1}, []int32{1, 1, 1, 3, 1, 13}, []int{-1, 0, -1, 3, -1}},
		{[]int{12, 9, 5, 0, 15}, []int32{1, 1, 1, 3, 1, 13, 2, 2, 77, 4, 1, 3, 1, 7, 1, 1, 2, 11, 7}, []int{0, 3, 6, 10, 15}},
		{[]int{0, 5, 9, 12, 15}, []int32{1, 3, 13, 6, 13, 2, 2, 77, 10, 3, 1, 13, 1, 1, 13, 1, 2, 1, 6}, []int{0, 5, 9, 12, 15}},
		// Places within objects, behind the last one, below nought, and huge.
		{[]int{1, 2, 3, 4, 6, 7, 8, 10, 11, 13, 14, 16, 17, 18}, nil, slices.Repeat([]int{-1}, 14)},
		{[]int{19, 20, 21, 29, 30, 31}, nil, slices.Repeat([]int{-1}, 6)},
		{[]int{-2, -12, -13, math.MinInt32, math.MinInt, math.MinInt + 1}, nil, slices.Repeat([]int{-1}, 6)},
		{[]int{math.MaxInt, math.MaxInt32, 1 << 32, 1<<32 + 12, 1<<33 + 9, most, most + 12}, nil, slices.Repeat([]int{-1}, 7)},
		{[]int{13, 12, 1 << 32, 9, math.MinInt}, []int32{1, 1, 1, 3, 1, 13}, []int{-1, 0, -1, 3, -1}},
	} {
		checkAnswers(t, h, some, x.roots, x.words, x.places)
		check(t, h, some, x.roots)
	}
}

func TestFarRoots(t *testing.T) {
	h := five(t)
	roots := far()
	checkAnswers(t, h, each, roots, nil, slices.Repeat([]int{-1}, len(roots)))
	for _, at := range roots {
		checkAnswers(t, h, each, []int{at}, nil, []int{-1})
		checkAnswers(t, h, some, []int{at, 12}, []int32{1, 1, 1}, []int{-1, 0})
	}
}

// First all that roots name, then what these name, and only then what those name.
func TestOrderOfTheCopies(t *testing.T) {
	// Each object is of kind 10 and more by its number, so that a copy tells whose it is.
	words := []int32{
		10, 2, 5, 8, // 0: names 1, 2
		11, 1, 11, // 4: names 3
		12, 1, 14, // 7: names 4
		13, 1, 1, // 10: names 0
		14, 2, 17, 8, // 13: names none (within itself), 2
	}
	for _, x := range []struct {
		roots []int
		words []int32
	}{
		{[]int{0}, []int32{10, 2, 5, 8, 11, 1, 11, 12, 1, 14, 13, 1, 1, 14, 2, 0, 8}},
		{[]int{4}, []int32{11, 1, 4, 13, 1, 7, 10, 2, 1, 11, 12, 1, 14, 14, 2, 0, 11}},
		{[]int{7, 0}, []int32{12, 1, 8, 10, 2, 12, 1, 14, 2, 0, 1, 11, 1, 15, 13, 1, 4}},
		{[]int{13, 10}, []int32{14, 2, 0, 8, 13, 1, 11, 12, 1, 1, 10, 2, 15, 8, 11, 1, 5}},
		{[]int{10, 13, 7, 4, 0}, []int32{13, 1, 14, 14, 2, 0, 8, 12, 1, 4, 11, 1, 1, 10, 2, 11, 8}},
	} {
		h := mustOf(t, words, 20)
		_, places := read(words).copied(each, x.roots)
		checkAnswers(t, h, each, x.roots, x.words, places)
	}
}

// One object, one word of it, and all that this may be.
func TestWhatAReferenceNames(t *testing.T) {
	for _, x := range []struct{ word, now int32 }{
		{0, 0}, {1, 6}, {2, 0}, {3, 0}, {4, 4}, {5, 0}, {6, 0}, {7, 1}, {8, 0}, {9, 0}, {10, 0}, {11, 0}, {12, 0}, {13, 0},
		{-1, 0}, {-2, 0}, {-4, 0}, {-7, 0}, {math.MinInt32, 0}, {math.MinInt32 + 1, 0}, {math.MinInt32 + 7, 0},
		{math.MaxInt32, 0}, {math.MaxInt32 - 1, 0}, {most, 0}, {most + 1, 0}, {1<<16 + 1, 0}, {1<<20 + 4, 0}, {1<<30 + 7, 0},
	} {
		// At 0 one that nothing else names, at 3 a root, at 6 the one whose word it is.
		h := mustOf(t, []int32{5, 1, 42, 5, 1, 43, 1, 1, x.word}, 40)
		words := []int32{1, 1, x.now, 5, 1, 43}
		if x.word == 1 {
			words[2] = 7
			words = append(words, 5, 1, 42)
		}
		checkAnswers(t, h, some, []int{6, 3}, words, []int{0, 3})
		// Where it is none it stays what it is, whatever that is.
		checkAnswers(t, h, none, []int{6, 3}, []int32{1, 1, x.word, 5, 1, 43}, []int{0, 3})
	}
}

func TestReferencesThatMeet(t *testing.T) {
	for _, x := range []struct {
		about        string
		words        []int32
		roots        []int
		want         []int32
		second, live int // the second root's place, if there is one, and how many words live
	}{
		{"two name one", []int32{9, 0, 1, 1, 9, 1, 1, 9, 7, 1, 0}, []int{2, 5}, []int32{1, 1, 7, 1, 1, 7, 7, 1, 0}, 3, 9},
		{"one names one twice", []int32{9, 0, 1, 2, 1, 1}, []int{2}, []int32{1, 2, 5, 5, 9, 0}, 0, 6},
		{"itself", []int32{9, 0, 1, 2, 3, 3}, []int{2}, []int32{1, 2, 1, 1}, 0, 4},
		{"a ring of two", []int32{9, 0, 1, 1, 6, 1, 1, 3}, []int{5}, []int32{1, 1, 4, 1, 1, 1}, 0, 6},
		{"a ring of three", []int32{1, 1, 4, 1, 1, 7, 1, 1, 1}, []int{3}, []int32{1, 1, 4, 1, 1, 7, 1, 1, 1}, 0, 9},
		{"a ring, entered twice", []int32{1, 1, 4, 1, 1, 7, 1, 1, 1}, []int{6, 3}, []int32{1, 1, 7, 1, 1, 1, 1, 1, 4}, 3, 9},
		{"a ring that nothing names", []int32{1, 1, 4, 1, 1, 1, 7, 0}, []int{6}, []int32{7, 0}, 0, 2},
		{"nothing of null", []int32{1, 2, 0, 0, 7, 0}, []int{0}, []int32{1, 2, 0, 0}, 0, 4},
		{"an object of nothing ahead of others", []int32{0, 0, 1, 1, 1}, []int{2, 0}, []int32{1, 1, 4, 0, 0}, 3, 5},
	} {
		h := mustOf(t, x.words, 50)
		places := []int{0}
		if len(x.roots) > 1 {
			places = append(places, x.second)
		}
		checkAnswers(t, h, some, x.roots, x.want, places)
		if n := collect.Live(h, some, x.roots); n != x.live {
			t.Errorf("%s: Live %d; want %d", x.about, n, x.live)
		}
	}
}

func TestWhichWordsAreReferences(t *testing.T) {
	// Objects of the kinds 1, 2, 2; each word of the first two could name one.
	words := []int32{1, 3, 6, 11, 6, 2, 3, 11, 1, 11, 2, 0}
	for _, x := range []struct {
		about  string
		refs   asker
		words  []int32
		places []int
	}{
		{"each", each, []int32{1, 3, 6, 11, 6, 2, 3, 11, 1, 11, 2, 0}, []int{0}},
		{"none", none, []int32{1, 3, 6, 11, 6}, []int{0}},
		{"nil", nil, []int32{1, 3, 6, 11, 6}, []int{0}},
		{"of kind 1", func(kind, i int) bool { return kind == 1 }, []int32{1, 3, 6, 11, 6, 2, 3, 11, 1, 11, 2, 0}, []int{0}},
		{"of kind 2", func(kind, i int) bool { return kind == 2 }, []int32{1, 3, 6, 11, 6}, []int{0}},
		{"the first", func(kind, i int) bool { return i == 0 }, []int32{1, 3, 6, 11, 6, 2, 3, 11, 1, 11, 2, 0}, []int{0}},
		{"the second", func(kind, i int) bool { return i == 1 }, []int32{1, 3, 6, 6, 6, 2, 0}, []int{0}},
		{"the last", func(kind, i int) bool { return i == 2 }, []int32{1, 3, 6, 11, 6, 2, 3, 11, 1, 11, 2, 0}, []int{0}},
		{"the second of kind 1, the first of 2", func(kind, i int) bool { return kind == 1 && i == 1 || kind == 2 && i == 0 }, []int32{1, 3, 6, 6, 6, 2, 0}, []int{0}},
		{"the third of kind 1, the second of 2", func(kind, i int) bool { return kind == 1 && i == 2 || kind == 2 && i == 1 }, []int32{1, 3, 6, 11, 6, 2, 3, 11, 1, 11}, []int{0}},
		{"of kinds that are not there", func(kind, i int) bool { return kind != 1 && kind != 2 }, []int32{1, 3, 6, 11, 6}, []int{0}},
		{"of words that are not there", func(kind, i int) bool { return i < 0 || i > 2 }, []int32{1, 3, 6, 11, 6}, []int{0}},
	} {
		checkAnswers(t, mustOf(t, words, 12), x.refs, []int{0}, x.words, x.places)
	}
}

// What is no reference stays as it was, each number, also where it looks like one.
func TestWordsThatAreNoReferences(t *testing.T) {
	values := []int32{0, 1, -1, 4, 2, math.MaxInt32, math.MinInt32, math.MaxInt32 - 1, math.MinInt32 + 1, 1 << 20, -1 << 20, 255, 256, -256, 1 << 16, 77}
	h := heap.New(100)
	h.Make(3, 1)
	at, _ := h.Make(4, 2*len(values))
	for i, x := range values {
		h.Put(at, 2*i+1, x)
		h.Put(at, 2*i, 1)
	}
	want := []int32{4, int32(2 * len(values))}
	for _, x := range values {
		want = append(want, int32(2*len(values)+3), x)
	}
	checkAnswers(t, h, some, []int{at}, append(want, 3, 1, 0), []int{0})
}

// Kinds and lengths from the least to the greatest.
func TestKindsAndLengths(t *testing.T) {
	h := heap.New(most)
	var words []int32
	for _, kind := range []int{0, 1, 255, 256, 9999, 10_000} {
		for _, n := range []int{0, 1, 2, 255, 256, 999, 1000} {
			at, ok := h.Make(kind, n)
			if !ok {
				t.Fatal("no room")
			}
			words = append(words, int32(kind), int32(n))
			for i := range n {
				h.Put(at, i, int32(-i-at))
				words = append(words, int32(-i-at))
			}
		}
	}
	var roots []int
	for _, x := range read(words) {
		roots = append(roots, x.at)
		checkAnswers(t, h, none, []int{x.at}, words[x.at:x.at+2+len(x.words)], []int{0})
	}
	checkAnswers(t, h, none, roots, words, roots)
}

func TestEmptyHeaps(t *testing.T) {
	for _, n := range []int{math.MinInt, -1, 0, 1, 2, 3, 100, most, most + 1, math.MaxInt} {
		for _, refs := range []asker{each, none, some, nil} {
			checkAnswers(t, heap.New(n), refs, nil, nil, nil)
			checkAnswers(t, heap.New(n), refs, []int{-1, 0, 1, 2, math.MinInt, math.MaxInt}, nil, slices.Repeat([]int{-1}, 6))
		}
	}
	checkAnswers(t, new(heap.Heap), each, []int{0, -1}, nil, []int{-1, -1})
}

func TestTheSizeOfTheCopy(t *testing.T) {
	words := []int32{1, 1, 4, 5, 0}
	for _, n := range []int{5, 6, 7, 8, 100, 1000, most - 1, most} {
		h := mustOf(t, words, n)
		for _, roots := range [][]int{nil, {0}, {3}, {-1, 7}} {
			g, _ := collect.Copy(h, some, roots)
			if g.Size() != n {
				t.Fatalf("Size %d; want %d", g.Size(), n)
			}
			// There is just the room that what lives leaves.
			left := n - g.Used()
			if _, ok := g.Make(8, min(left-1, 1000)); ok && left < 1002 {
				t.Fatalf("more was made than there is room for: %d of %d", g.Used(), n)
			}
			if _, ok := g.Make(8, min(left-2, 1000)); ok != (left >= 2) {
				t.Fatalf("%d words are left, and Make answers %v", left, ok)
			}
		}
	}
}

func TestFullHeaps(t *testing.T) {
	for _, n := range []int{2, 3, 4, 5, 6, 7, 30, 31, 1001, 5000} {
		for longest := range 6 {
			h := heap.New(n)
			var roots []int
			for k := 0; h.Used() < n; k++ {
				left := n - h.Used() - 2
				long := min(longest, left)
				if left-long == 1 {
					long++ // One word alone could not be filled.
				}
				at, ok := h.Make(k%10_000, long)
				if !ok {
					t.Fatalf("Make(%d, %d) with %d left", k, long, left+2)
				}
				roots = append(roots, at)
				if long > 0 {
					h.Put(at, long-1, int32(roots[k/2]+1))
				}
			}
			checkAnswers(t, h, each, roots, h.Words(), roots)
			slices.Reverse(roots)
			check(t, h, each, roots)
			check(t, h, each, roots[:1])
			check(t, h, each, roots[len(roots)/2:])
		}
	}
}

func TestANilHeap(t *testing.T) {
	for _, refs := range []asker{nil, each, none} {
		for _, roots := range [][]int{nil, {}, {0}, {-1}, {0, 1, 2, math.MaxInt}} {
			if g, places := collect.Copy(nil, refs, roots); g != nil || places != nil {
				t.Errorf("Copy of nil, roots %v: %v, %v", roots, g, places)
			}
			if n := collect.Live(nil, refs, roots); n != 0 {
				t.Errorf("Live of nil, roots %v: %d", roots, n)
			}
		}
	}
}

func TestLiveWrittenOut(t *testing.T) {
	h := five(t)
	for _, x := range []struct {
		roots []int
		refs  asker
		live  int
	}{
		{nil, some, 0}, {[]int{-1}, some, 0}, {[]int{1}, some, 0}, {[]int{19}, some, 0}, {[]int{math.MaxInt}, some, 0}, {[]int{math.MinInt}, some, 0},
		{[]int{12}, some, 3}, {[]int{9}, some, 3}, {[]int{9}, each, 6}, {[]int{5}, some, 7}, {[]int{5}, none, 4}, {[]int{5}, nil, 4}, {[]int{5}, each, 10},
		{[]int{0}, some, 15}, {[]int{0}, none, 5}, {[]int{0, 0, 0}, nil, 5}, {[]int{15}, some, 19}, {[]int{15, 12}, none, 7}, {[]int{15, 12, 15, -1, 13}, none, 7},
		{[]int{0, 5, 9, 12, 15}, nil, 19}, {[]int{15, 12, 9, 5, 0}, some, 19},
	} {
		if n := collect.Live(h, x.refs, x.roots); n != x.live {
			t.Errorf("Live, roots %v: %d; want %d", x.roots, n, x.live)
		}
	}
}
