package frame_test

import (
	"math"
	"slices"
	"testing"

	"daguerre/frame"
)

// All numbers of locals, of room and of args around their bounds.
func TestNewAtItsBounds(t *testing.T) {
	for locals := -3; locals <= most+3; locals++ {
		for stack := -3; stack <= most+3; stack++ {
			for n := range most + 4 {
				args := row(n)
				b := bookOf(7, locals, stack, args)
				f := frame.New(7, locals, stack, args...)
				if (f == nil) != (b == nil) {
					t.Fatalf("New(7, %d, %d, %d args) = %v", locals, stack, n, f)
				}
				if f != nil {
					checkWhole(t, f, b)
				}
			}
		}
	}
}

func TestNewOfNumbersThatAreFar(t *testing.T) {
	for _, n := range far {
		for _, other := range []int{0, 5, most} {
			if frame.New(1, n, other) != nil || frame.New(1, other, n) != nil || frame.New(1, n, n) != nil || frame.New(1, n, other, row(3)...) != nil {
				t.Fatalf("New with %d and %d is a frame", n, other)
			}
		}
	}
	if frame.New(1, most, most, row(1000)...) != nil || frame.New(1, 0, 0, row(1<<16)...) != nil {
		t.Fatal("New with more args than locals is a frame")
	}
}

func TestNewWrittenOut(t *testing.T) {
	f := frame.New(9, 5, 2, num(5), ref(3), ref(0))
	if f == nil || f.Method() != 9 || f.Pc() != 0 || f.Depth() != 0 {
		t.Fatalf("New = %v", f)
	}
	for i, want := range []frame.Val{{N: 5}, {Ref: true, N: 3}, {Ref: true}, {}, {}} {
		if v, ok := f.Load(i); v != want || !ok {
			t.Fatalf("Load(%d) = %v, %v; want %v", i, v, ok, want)
		}
	}
	checkNoPop(t, f, 1)
	checkRefs(t, f, []int{2, -1})
}

func TestMethodAndPcAreAnyNumbers(t *testing.T) {
	for _, n := range append(slices.Clone(far), 0, 1, -1, 100) {
		f, b := mustNew(t, n, 2, 2, row(2)...)
		checkFrame(t, f, b)
		f.Goto(n)
		b.pc = n
		checkFrame(t, f, b)
		f.Goto(12)
		f.Goto(12)
		b.pc = 12
		checkFrame(t, f, b)
		f.Goto(0)
		b.pc = 0
		checkFrame(t, f, b)
	}
}

func TestStoreAtEachLocal(t *testing.T) {
	for locals := range most + 1 {
		for i := range locals {
			f, b := mustNew(t, 3, locals, 4, row(locals)...)
			f.Push(num(1), ref(2))
			b.push([]frame.Val{num(1), ref(2)})
			for _, v := range []frame.Val{ref(50), num(50), ref(0), num(0), num(math.MinInt32), ref(math.MaxInt32)} {
				if !f.Store(i, v) || !b.store(i, v) {
					t.Fatalf("Store(%d, %v) of %d locals", i, v, locals)
				}
				checkFrame(t, f, b)
			}
			checkWhole(t, f, b)
		}
	}
}

func TestAnIntAndAReferenceOfTheSameNumber(t *testing.T) {
	for _, n := range []int32{0, 1, 5, -1, math.MinInt32, math.MaxInt32} {
		if num(n) == ref(n) {
			t.Fatalf("%d is one value", n)
		}
		f, _ := mustNew(t, 0, 2, 2, num(n), ref(n))
		f.Push(ref(n), num(n))
		checkRefs(t, f, []int{int(n) - 1, int(n) - 1})
		checkPop(t, f, ref(n), num(n))
		f.Store(0, ref(n))
		f.Store(1, num(n))
		if a, ok := f.Load(0); a != ref(n) || !ok {
			t.Fatalf("Load(0) = %v, %v", a, ok)
		}
		if a, ok := f.Load(1); a != num(n) || !ok {
			t.Fatalf("Load(1) = %v, %v", a, ok)
		}
	}
}

func TestPushAndPopWrittenOut(t *testing.T) {
	f := frame.New(0, 0, 4)
	if !f.Push() || f.Depth() != 0 || !f.Push(num(1)) || f.Depth() != 1 || !f.Push(ref(2), num(3)) || f.Depth() != 3 {
		t.Fatalf("Push: %d", f.Depth())
	}
	checkNoPush(t, f, num(4), num(5))
	checkNoPop(t, f, 4)
	checkNoPop(t, f, -1)
	checkPop(t, f)
	checkPop(t, f, num(3))
	checkPop(t, f, num(1), ref(2))
	checkPop(t, f)
	checkNoPop(t, f, 1)
	if !f.Push(num(6), num(7), num(8), num(9)) || !f.Push() || f.Depth() != 4 {
		t.Fatalf("Push of all that there is room for: %d", f.Depth())
	}
	checkNoPush(t, f, num(4))
	checkPop(t, f, num(9))
	if !f.Push(num(10)) {
		t.Fatal("Push where one was popped")
	}
	checkPop(t, f, num(6), num(7), num(8), num(10))
}

// Each room, with each depth, each Push up to one too many and some, and each Pop.
func TestEachPushAndEachPop(t *testing.T) {
	for room := range most + 1 {
		for depth := range room + 1 {
			for n := range room - depth + 4 {
				checkPushAndPops(t, room, depth, n)
			}
		}
	}
}

func checkPushAndPops(t *testing.T, room, depth, n int) {
	t.Helper()
	below, above := row(depth), row(depth + n)[depth:]
	for take := -2; take <= depth+n+2; take++ {
		f, b := mustNew(t, 1, 2, room, ref(40))
		f.Push(below...)
		b.push(below)
		if got, want := f.Push(above...), b.push(above); got != want {
			t.Fatalf("Push of %d onto %d of %d = %v", n, depth, room, got)
		}
		checkFrame(t, f, b)
		list, ok := f.Pop(take)
		want, may := b.pop(take)
		if ok != may || !slices.Equal(list, want) || !ok && list != nil {
			t.Fatalf("Pop(%d) = %v, %v; want %v, %v", take, list, ok, want, may)
		}
		checkWhole(t, f, b)
	}
}

func TestPushOfFarTooMany(t *testing.T) {
	for _, n := range []int{most + 1, 255, 256, 257, 1 << 16, 1<<16 + 1} {
		f, b := mustNew(t, 0, 1, most)
		checkNoPush(t, f, row(n)...)
		checkWhole(t, f, b)
	}
}

func TestClear(t *testing.T) {
	for depth := range most + 1 {
		f, b := mustNew(t, 5, 3, most, row(3)...)
		f.Goto(8)
		b.pc = 8
		f.Push(row(depth)...)
		f.Clear()
		checkFrame(t, f, b)
		checkNoPop(t, f, 1)
		f.Clear()
		checkFrame(t, f, b)
		again := slices.Repeat([]frame.Val{num(-4), ref(9)}, most/2)
		if !f.Push(again...) {
			t.Fatal("Push of all that there is room for, behind Clear")
		}
		b.push(again)
		checkWhole(t, f, b)
	}
}

func TestRefsWrittenOut(t *testing.T) {
	f := frame.New(0, 4, 4, ref(7), num(9), ref(0))
	checkRefs(t, f, []int{6, -1})
	f.Push(ref(0), num(3), ref(1), ref(math.MaxInt32))
	checkRefs(t, f, []int{6, -1, -1, 0, math.MaxInt32 - 1})
	f.Store(0, num(7))
	f.Store(3, ref(7))
	checkRefs(t, f, []int{-1, 6, -1, 0, math.MaxInt32 - 1})
	f.Pop(1)
	checkRefs(t, f, []int{-1, 6, -1, 0})
	f.Clear()
	checkRefs(t, f, []int{-1, 6})
	f.Push(num(1), num(2), num(3))
	checkRefs(t, f, []int{-1, 6})
	f.Store(2, num(0))
	f.Store(3, num(0))
	checkRefs(t, f, nil)
	checkRefs(t, frame.New(0, 0, 0), nil)
	checkRefs(t, frame.New(0, most, most), nil)
}

func TestSetRefsWrittenOut(t *testing.T) {
	f := frame.New(0, 3, 4, ref(7), num(9), ref(0))
	f.Push(num(5), ref(4), num(6))
	f.SetRefs([]int{-1, 20, 0})
	checkRefs(t, f, []int{-1, 20, 0})
	for i, want := range []frame.Val{ref(0), num(9), ref(21)} {
		if v, ok := f.Load(i); v != want || !ok {
			t.Fatalf("Load(%d) = %v, %v; want %v", i, v, ok, want)
		}
	}
	f.SetRefs([]int{5, math.MaxInt32 - 1, -1})
	checkRefs(t, f, []int{5, math.MaxInt32 - 1, -1})
	checkPop(t, f, num(5), ref(0), num(6))
	// What was popped is asked for no more.
	f.SetRefs([]int{8, 9, 10})
	checkRefs(t, f, []int{5, math.MaxInt32 - 1})
	f.SetRefs([]int{8, 9})
	checkRefs(t, f, []int{8, 9})
	// What is laid there now is not what was popped.
	f.Push(num(5), num(4), num(6), ref(3))
	checkRefs(t, f, []int{8, 9, 2})
	f.SetRefs([]int{1, 2, 3})
	checkPop(t, f, num(5), num(4), num(6), ref(4))
}

// Each number of references, and lists from none to more than there are.
func TestSetRefsOfFewerAndOfMore(t *testing.T) {
	for locals := range most + 1 {
		for depth := range most + 1 {
			f, b := mustNew(t, 1, locals, depth, row(locals)...)
			f.Push(row(depth)...)
			b.push(row(depth))
			n := len(b.refs())
			for k := range n + 4 {
				list := make([]int, k)
				for i := range list {
					list[i] = 1000 + i
				}
				f.SetRefs(list)
				b.setRefs(list)
				checkFrame(t, f, b)
			}
			f.SetRefs(nil)
			f.SetRefs(make([]int, 1<<16))
			checkWhole(t, f, b)
		}
	}
}

// No sum wraps: a place that no reference has room for is no one's, and nothing happens.
func TestSetRefsOfPlacesThatAreTooFar(t *testing.T) {
	tooFar := []int{math.MaxInt, math.MaxInt - 1, math.MinInt, math.MinInt + 1, math.MaxInt32, math.MaxInt32 + 1, math.MinInt32 - 2, 1 << 32, 1<<32 - 1, -1 << 32, -1<<32 - 1}
	for _, place := range tooFar {
		for i := range 3 {
			f, b := mustNew(t, 1, 2, 2, ref(5), ref(6))
			f.Push(ref(7), num(8))
			b.push([]frame.Val{ref(7), num(8)})
			list := []int{1, 2, 3}
			list[i] = place
			f.SetRefs(list)
			checkWhole(t, f, b)
		}
	}
	for _, place := range []int{math.MaxInt32 - 1, math.MaxInt32 - 2, math.MinInt32 - 1, math.MinInt32, -2} {
		f, b := mustNew(t, 1, 2, 2, ref(5), ref(6))
		f.SetRefs([]int{place, 4})
		b.setRefs([]int{place, 4})
		checkRefs(t, f, []int{place, 4})
		checkWhole(t, f, b)
	}
}

func TestRefsOfNumbersThatNameNoObject(t *testing.T) {
	f := frame.New(0, 3, 0, ref(-1), ref(math.MinInt32), ref(math.MinInt32+1))
	checkRefs(t, f, []int{-2, math.MinInt32 - 1, math.MinInt32})
}
