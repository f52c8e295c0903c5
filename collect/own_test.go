package collect_test

import (
	"go/parser"
	"go/token"
	"math"
	"path/filepath"
	"slices"
	"strings"
	"testing"

	"daguerre/collect"
	"daguerre/heap"
)

// scrawl writes over a list and its spare room.
func scrawl(list []int) {
	for i := range list[:cap(list)] {
		list[:cap(list)][i] = 99
	}
}

// tell changes each word of h, and fills it.
func tell(h *heap.Heap) {
	for at := range h.Used() {
		for i := range h.Len(at) {
			h.Put(at, i, h.Get(at, i)^0x55)
		}
	}
	for n := 5; n >= 0; n-- {
		for {
			if _, ok := h.Make(9, n); !ok {
				break
			}
		}
	}
}

func TestTheCopyAndTheHeapAreApart(t *testing.T) {
	for _, roots := range [][]int{nil, {0}, {12, 9}, {0, 5, 9, 12, 15}, {15, -1}} {
		h := five(t)
		was := h.Words()
		first, _ := collect.Copy(h, some, roots)
		second, _ := collect.Copy(h, some, roots)
		words := first.Words()
		tell(first)
		if !slices.Equal(h.Words(), was) || !slices.Equal(second.Words(), words) {
			t.Fatalf("roots %v: a copy was told, and the elder heap is now %v, another copy %v", roots, h.Words(), second.Words())
		}
		tell(h)
		if !slices.Equal(second.Words(), words) {
			t.Fatalf("roots %v: the elder heap was told, and a copy is now %v", roots, second.Words())
		}
		if _, ok := second.Make(7, 2); ok != (len(words)+4 <= 30) {
			t.Fatalf("roots %v: Make in a copy of %d words: %v", roots, len(words), ok)
		}
	}
}

func TestRootsAreNeitherChangedNorKept(t *testing.T) {
	h := five(t)
	for _, roots := range [][]int{{}, {12}, {9, 12, -1, 9}, {1, -7, math.MaxInt}} {
		for _, spare := range []int{0, 1, 9} {
			room := append(slices.Clone(roots), slices.Repeat([]int{-77}, spare)...)
			given, old := room[:len(roots)], slices.Clone(room)
			g, places := collect.Copy(h, some, given)
			n := collect.Live(h, some, given)
			if !slices.Equal(room, old) {
				t.Fatalf("what was handed in was %v, and is now %v", old, room)
			}
			words, told := g.Words(), slices.Clone(places)
			scrawl(room)
			if !slices.Equal(places, told) || !slices.Equal(g.Words(), words) {
				t.Fatalf("what was handed in was written over, and the answer is now %v, %v", g.Words(), places)
			}
			if again := collect.Live(h, some, roots); again != n {
				t.Fatalf("Live was %d, and is now %d", n, again)
			}
		}
	}
}

func TestPlacesAreTheirHoldersOwn(t *testing.T) {
	h := five(t)
	for _, roots := range [][]int{nil, {12}, {9, 12, -1, 9}, {-1, -1}} {
		given := slices.Clone(roots)
		first, one := collect.Copy(h, some, given)
		second, two := collect.Copy(h, some, given)
		words, places := second.Words(), slices.Clone(two)
		scrawl(one)
		_ = append(one, 1, 2, 3)
		third, three := collect.Copy(h, some, given)
		if !slices.Equal(first.Words(), words) || !slices.Equal(second.Words(), words) || !slices.Equal(third.Words(), words) {
			t.Fatal("places were written over, and a heap has turned")
		}
		if !slices.Equal(two, places) || !slices.Equal(three, places) || !slices.Equal(given, roots) {
			t.Fatalf("places were written over, and others are now %v, %v, the roots %v", two, three, given)
		}
	}
}

// Nil and empty lists are the same.
func TestNilRoots(t *testing.T) {
	h := five(t)
	for _, roots := range [][]int{nil, {}, make([]int, 0, 5), []int{12, 9}[:0]} {
		g, places := collect.Copy(h, some, roots)
		if g == nil || g.Used() != 0 || g.Size() != 30 || len(places) != 0 || collect.Live(h, some, roots) != 0 {
			t.Fatalf("Copy without roots: %v, %v", g.Words(), places)
		}
	}
}

// The same calls have the same answers, whatever other heaps were copied.
func TestTheSameCallsHaveTheSameAnswers(t *testing.T) {
	ask := func() []int32 {
		var answers []int32
		for seed := range 20 {
			r := &numbers{uint64(seed) * 5}
			h := made(r, 150, 25, 5)
			roots := someRoots(r, read(h.Words()), 4)
			for range 3 {
				g, places := collect.Copy(h, some, roots)
				answers = append(append(answers, g.Words()...), int32(collect.Live(h, some, roots)))
				for _, at := range places {
					answers = append(answers, int32(at))
				}
			}
		}
		return answers
	}
	first := ask()
	for range 5 {
		collect.Copy(five(t), each, []int{15})
		if !slices.Equal(ask(), first) {
			t.Fatal("the same calls had other answers")
		}
	}
}

// refs is asked of words of objects that live, by their kinds and the words' numbers, and of nothing else.
func TestWhatRefsIsAskedOf(t *testing.T) {
	h := mustOf(t, []int32{6, 2, 5, 0, 7, 1, 1, 8, 5, 0, 0, 0, 0, 0, 9, 0}, 30)
	may := map[[2]int]int{{6, 0}: 0, {6, 1}: 0, {7, 0}: 0}
	asked := func(kind, i int) bool {
		if _, ok := may[[2]int{kind, i}]; !ok {
			t.Errorf("refs was asked of word %d of kind %d", i, kind)
		}
		may[[2]int{kind, i}]++
		return true
	}
	checkAnswers(t, h, asked, []int{4, -1, 99, 5}, []int32{7, 1, 4, 6, 2, 1, 0}, []int{0, -1, -1, -1})
	for x, n := range may {
		if n == 0 {
			t.Errorf("refs was not asked of word %d of kind %d", x[1], x[0])
		}
	}
}

// A refs that panics does not say that the word is a reference; neither call panics.
func TestARefsThatPanics(t *testing.T) {
	h := five(t)
	checkAnswers(t, h, func(kind, i int) bool { panic("no") }, []int{0, 12}, []int32{1, 3, 13, 6, 13, 1, 1, 13}, []int{0, 5})
	var none []bool
	checkAnswers(t, h, func(kind, i int) bool { return none[i] }, []int{9}, []int32{3, 1, 13}, []int{0})
	second := func(kind, i int) bool {
		if i != 1 {
			panic("no")
		}
		return true
	}
	checkAnswers(t, h, second, []int{0}, []int32{1, 3, 13, 6, 13, 2, 2, 77, 10, 3, 1, 13}, []int{0})
}

// refs may itself ask collect.
func TestARefsThatCopies(t *testing.T) {
	h := five(t)
	checkAnswers(t, h, func(kind, i int) bool {
		g, _ := collect.Copy(h, some, []int{0, 15})
		return g.Used() == 19 && collect.Live(h, each, []int{12}) == 3 && some(kind, i)
	}, []int{5}, []int32{2, 2, 77, 5, 3, 1, 13}, []int{0})
}

// A refs that tells the heap things while it is asked, and has an object name what it made first, or last: both calls end, none panics, and what was not there is not copied.
func TestARefsThatTellsTheHeap(t *testing.T) {
	for _, last := range []bool{false, true} {
		h, roots := five(t), []int{0, 12}
		meddles := func(kind, i int) bool {
			if at, ok := h.Make(1, 0); ok && (last || at == 19) {
				h.Put(9, 0, int32(at+1))
			}
			roots[0] = 15
			return true
		}
		g, places := collect.Copy(h, meddles, roots)
		if want := []int32{1, 3, 6, 9, 6, 1, 1, 6, 2, 2, 0, 13, 3, 1, 0}; g.Size() != 30 || !slices.Equal(g.Words(), want) || !slices.Equal(places, []int{0, 5}) {
			t.Fatalf("Size %d, words %v, places %v", g.Size(), g.Words(), places)
		}
		h = five(t)
		if n := collect.Live(h, meddles, []int{0, 12}); n != 15 {
			t.Fatalf("Live %d", n)
		}
	}
}

// The chapter says that the layer stands on heap.
func TestStandsOnHeapAlone(t *testing.T) {
	files, err := filepath.Glob("*.go")
	if err != nil {
		t.Fatal(err)
	}
	for _, name := range files {
		if strings.HasSuffix(name, "_test.go") {
			continue
		}
		tree, err := parser.ParseFile(token.NewFileSet(), name, nil, parser.ImportsOnly)
		if err != nil {
			t.Fatal(err)
		}
		for _, spec := range tree.Imports {
			if path := spec.Path.Value; strings.HasPrefix(path, `"daguerre/`) && path != `"daguerre/heap"` {
				t.Errorf("%s imports %s", name, path)
			}
		}
	}
}
