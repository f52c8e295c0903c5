package collect_test

import (
	"slices"
	"testing"

	"daguerre/heap"
)

// A thing is an object as the book has it.
type thing struct {
	at, kind int
	words    []int32
}

// A book keeps things in the order in which they stand.
type book []thing

// read gives the book that has those words. They are a heap's.
func read(words []int32) book {
	var b book
	for at := 0; at < len(words); {
		end := at + 2 + int(words[at+1])
		b = append(b, thing{at, int(words[at]), words[at+2 : end]})
		at = end
	}
	return b
}

// find gives the number of the thing at that place, or -1.
func (b book) find(at int) int {
	return slices.IndexFunc(b, func(x thing) bool { return x.at == at })
}

// living gives the numbers of the things that live, in the order of their copies.
func (b book) living(refs asker, roots []int) []int {
	var list []int
	name := func(at int) {
		if k := b.find(at); k >= 0 && !slices.Contains(list, k) {
			list = append(list, k)
		}
	}
	for _, at := range roots {
		name(at)
	}
	for k := 0; k < len(list); k++ {
		x := b[list[k]]
		for i, w := range x.words {
			if refs(x.kind, i) && w > 0 {
				name(int(w) - 1)
			}
		}
	}
	return list
}

// copied gives the copy's words, and the roots' places in it.
func (b book) copied(refs asker, roots []int) ([]int32, []int) {
	list := b.living(refs, roots)
	now := func(at int) int {
		place, k := 0, b.find(at)
		for _, l := range list {
			if l == k {
				return place
			}
			place += 2 + len(b[l].words)
		}
		return -1
	}
	var words []int32
	for _, l := range list {
		x := b[l]
		words = append(words, int32(x.kind), int32(len(x.words)))
		for i, w := range x.words {
			if refs(x.kind, i) {
				w = int32(now(int(w)-1) + 1)
			}
			words = append(words, w)
		}
	}
	var places []int
	for _, at := range roots {
		places = append(places, now(at))
	}
	return words, places
}

// lists gives all lists of up to n numbers from low to high.
func lists(n, low, high int) [][]int {
	all := [][]int{nil}
	for from := 0; n > 0; n-- {
		end := len(all)
		for _, l := range all[from:end] {
			for x := low; x <= high; x++ {
				all = append(all, append(slices.Clone(l), x))
			}
		}
		from = end
	}
	return all
}

// All that three words may name, in heaps of two and three objects, with all lists of up to two roots.
func TestEachSmallHeap(t *testing.T) {
	for _, frame := range [][]int32{
		{1, 3, 0, 0, 0, 3, 0},
		{2, 2, 0, 0, 1, 1, 0},
		{1, 1, 0, 1, 1, 0, 4, 1, 0},
		{4, 2, 0, 0, 0, 0, 1, 1, 0},
	} {
		var free []int
		for _, x := range read(frame) {
			for i := range x.words {
				free = append(free, x.at+2+i)
			}
		}
		roots := lists(2, -1, len(frame))
		for _, put := range lists(3, 0, len(frame)+1) {
			words := slices.Clone(frame)
			for i, x := range put {
				words[free[i]] = int32(x)
			}
			h, b := mustOf(t, words, len(words)), read(words)
			for _, l := range roots {
				want, places := b.copied(some, l)
				checkAnswers(t, h, some, l, want, places)
			}
		}
	}
}

// made gives a heap of objects whose words mostly name others, if they are no other numbers.
func made(r *numbers, n, things, longest int) *heap.Heap {
	h := heap.New(n)
	for range things {
		h.Make(r.below(6), r.below(longest+1))
	}
	b := read(h.Words())
	outside := far()
	for _, x := range b {
		for i := range x.words {
			w := 0
			switch r.below(8) {
			case 0:
			case 1:
				w = r.below(h.Used()+4) - 2
			case 2:
				w = int(int32(outside[r.below(len(outside))]))
			default:
				w = b[r.below(len(b))].at + 1
			}
			h.Put(x.at, i, int32(w))
		}
	}
	return h
}

func someRoots(r *numbers, b book, n int) []int {
	var roots []int
	outside := far()
	for range n {
		switch r.below(6) {
		case 0:
			roots = append(roots, -1)
		case 1:
			roots = append(roots, r.below(60)-3)
		case 2:
			roots = append(roots, outside[r.below(len(outside))])
		default:
			if len(b) > 0 {
				roots = append(roots, b[r.below(len(b))].at)
			}
		}
	}
	return roots
}

func askers(r *numbers) []asker {
	bits := r.below(1 << 30)
	return []asker{some, each, none,
		func(kind, i int) bool { return bits>>kind&1 == 1 },
		func(kind, i int) bool { return bits>>(i%16)&1 == 1 },
		func(kind, i int) bool { return bits>>((kind*3+i)%30)&1 == 1 },
	}
}

func TestMadeHeaps(t *testing.T) {
	for seed := range 600 {
		r := &numbers{uint64(seed) * 77}
		h := made(r, r.below(150), r.below(30), r.below(8))
		for _, refs := range askers(r) {
			for range 4 {
				roots := someRoots(r, read(h.Words()), r.below(7))
				g := check(t, h, refs, roots)
				check(t, g, refs, someRoots(r, read(g.Words()), r.below(5)))
			}
		}
	}
}

func TestMadeHeapsWithLongObjects(t *testing.T) {
	for seed := range 15 {
		r := &numbers{uint64(seed)*31 + 9}
		h := made(r, 9000, 40, 1000)
		for _, refs := range askers(r) {
			check(t, h, refs, someRoots(r, read(h.Words()), 1+r.below(5)))
		}
	}
}

// What was copied, copied again by its roots' new places, is as it was.
func TestCopiedAgain(t *testing.T) {
	for seed := range 300 {
		r := &numbers{uint64(seed)*13 + 1}
		h := made(r, r.below(200), r.below(40), r.below(6))
		roots := someRoots(r, read(h.Words()), r.below(6))
		for _, refs := range askers(r) {
			_, places := read(h.Words()).copied(refs, roots)
			g := check(t, h, refs, roots)
			words := g.Words()
			for range 3 {
				g = checkAnswers(t, g, refs, places, words, places)
			}
		}
	}
}
