package frame_test

import (
	"slices"
	"testing"

	"daguerre/frame"
)

// step tells f and the book one thing, that may be or not, and holds what they answer against each other.
func step(t *testing.T, r *numbers, f *frame.Frame, b *book) {
	t.Helper()
	switch r.below(9) {
	case 0:
		b.pc = r.below(1000) - 500
		f.Goto(b.pc)
	case 1, 2:
		i, v := r.below(most+4)-2, r.val()
		if got, want := f.Store(i, v), b.store(i, v); got != want {
			t.Fatalf("Store(%d, %v) = %v; want %v", i, v, got, want)
		}
	case 3, 4, 5:
		vs := r.vals(r.below(6))
		if got, want := f.Push(vs...), b.push(vs); got != want {
			t.Fatalf("Push(%v) onto %v = %v; want %v", vs, b.stack, got, want)
		}
	case 6:
		n := r.below(7) - 1
		got, ok := f.Pop(n)
		want, may := b.pop(n)
		if ok != may || !slices.Equal(got, want) || !ok && got != nil {
			t.Fatalf("Pop(%d) = %v, %v; want %v, %v", n, got, ok, want, may)
		}
	case 7:
		list := r.places(max(len(b.refs())+r.below(5)-2, 0))
		f.SetRefs(list)
		b.setRefs(list)
	case 8:
		if r.below(4) == 0 {
			f.Clear()
			b.stack = nil
		}
	}
}

func TestMadeFrames(t *testing.T) {
	for seed := range 1500 {
		r := &numbers{uint64(seed) * 77}
		locals, stack := r.below(most+1), r.below(most+1)
		f, b := mustNew(t, r.below(300), locals, stack, r.vals(r.below(locals+1))...)
		for range 80 {
			step(t, r, f, b)
			checkFrame(t, f, b)
		}
		checkWhole(t, f, b)
	}
}

// deed is one thing that a small frame is told.
func deed(t *testing.T, f *frame.Frame, b *book, which int) {
	t.Helper()
	lists := [][]frame.Val{nil, {ref(1)}, {num(2), ref(3)}, {ref(0), num(4), ref(5)}}
	switch {
	case which < 4:
		if got, want := f.Push(lists[which]...), b.push(lists[which]); got != want {
			t.Fatalf("Push(%v) = %v; want %v", lists[which], got, want)
		}
	case which < 7:
		got, ok := f.Pop(which - 4)
		want, may := b.pop(which - 4)
		if ok != may || !slices.Equal(got, want) {
			t.Fatalf("Pop(%d) = %v, %v; want %v, %v", which-4, got, ok, want, may)
		}
	case which == 7:
		f.Clear()
		b.stack = nil
	case which == 8:
		f.SetRefs([]int{6, -1})
		b.setRefs([]int{6, -1})
	case which == 9:
		if got, want := f.Store(1, ref(9)), b.store(1, ref(9)); got != want {
			t.Fatalf("Store(1) = %v; want %v", got, want)
		}
	}
}

// All orders of four of ten deeds, of frames with little room.
func TestEachSmallFrame(t *testing.T) {
	const deeds = 10
	for locals := range 3 {
		for room := range 5 {
			for way := range deeds * deeds * deeds * deeds {
				f, b := mustNew(t, 2, locals, room, row(min(locals, 1))...)
				for k, left := 0, way; k < 4; k, left = k+1, left/deeds {
					deed(t, f, b, left%deeds)
					checkFrame(t, f, b)
				}
				checkPop(t, f, b.stack...)
			}
		}
	}
}
