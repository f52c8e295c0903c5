package frame_test

import (
	"math"
	"slices"
	"testing"

	"daguerre/frame"
)

const most = 16 // locals, and values on a stack

func num(n int32) frame.Val { return frame.Val{N: n} }

func ref(n int32) frame.Val { return frame.Val{Ref: true, N: n} }

// row gives so many values, ints and references, no two the same.
func row(n int) []frame.Val {
	list := make([]frame.Val, n)
	for i := range list {
		list[i] = frame.Val{Ref: i%3 == 1, N: int32(100 + i)}
	}
	return list
}

// A book is a frame by the chapter's words, its lists made anew whenever one is written.
type book struct {
	method, pc    int
	locals, stack []frame.Val
	room          int
}

// bookOf gives nil where there may be no frame.
func bookOf(method, locals, stack int, args []frame.Val) *book {
	if locals < 0 || locals > most || stack < 0 || stack > most || len(args) > locals {
		return nil
	}
	list := slices.Clone(args)
	for len(list) < locals {
		list = append(list, num(0))
	}
	return &book{method: method, locals: list, room: stack}
}

func (b *book) store(i int, v frame.Val) bool {
	if i < 0 || i >= len(b.locals) {
		return false
	}
	b.locals = slices.Concat(b.locals[:i], []frame.Val{v}, b.locals[i+1:])
	return true
}

func (b *book) push(vs []frame.Val) bool {
	if len(b.stack)+len(vs) > b.room {
		return false
	}
	b.stack = slices.Concat(b.stack, vs)
	return true
}

func (b *book) pop(n int) ([]frame.Val, bool) {
	if n < 0 || n > len(b.stack) {
		return nil, false
	}
	left := len(b.stack) - n
	top := b.stack[left:]
	b.stack = slices.Clone(b.stack[:left])
	return top, true
}

func (b *book) refs() []int {
	var places []int
	for _, v := range slices.Concat(b.locals, b.stack) {
		if v.Ref {
			places = append(places, int(v.N)-1)
		}
	}
	return places
}

func (b *book) setRefs(l []int) {
	if len(l) != len(b.refs()) {
		return
	}
	all := slices.Concat(b.locals, b.stack)
	for i, v := range all {
		if v.Ref {
			all[i] = ref(int32(l[0] + 1))
			l = l[1:]
		}
	}
	b.locals, b.stack = all[:len(b.locals)], all[len(b.locals):]
}

// far are numbers of no local and of no value on a stack, and some that would be one if they were cut to fewer bits or went round.
var far = farNumbers()

func farNumbers() []int {
	list := []int{math.MinInt, math.MinInt + 1, math.MinInt + 15, math.MaxInt, math.MaxInt - 1, math.MaxInt - 15, -1000, 1000}
	for _, bits := range []int{8, 16, 31, 32, 33, 62} {
		for d := -3; d <= 3; d++ {
			list = append(list, 1<<bits+d, -1<<bits+d)
		}
	}
	return list
}

func mustNew(t *testing.T, method, locals, stack int, args ...frame.Val) (*frame.Frame, *book) {
	t.Helper()
	f := frame.New(method, locals, stack, args...)
	if f == nil {
		t.Fatalf("New(%d, %d, %d, %v) is nil", method, locals, stack, args)
	}
	return f, bookOf(method, locals, stack, args)
}

// checkFrame asks f all that can be asked without telling it anything.
func checkFrame(t *testing.T, f *frame.Frame, b *book) {
	t.Helper()
	if f.Method() != b.method || f.Pc() != b.pc || f.Depth() != len(b.stack) {
		t.Fatalf("Method %d, Pc %d, Depth %d; want %d, %d, %d", f.Method(), f.Pc(), f.Depth(), b.method, b.pc, len(b.stack))
	}
	for i, want := range b.locals {
		if v, ok := f.Load(i); v != want || !ok {
			t.Fatalf("Load(%d) = %v, %v; want %v", i, v, ok, want)
		}
	}
	checkRefs(t, f, b.refs())
}

func checkRefs(t *testing.T, f *frame.Frame, want []int) {
	t.Helper()
	if got := f.Refs(); !slices.Equal(got, want) {
		t.Fatalf("Refs %v; want %v", got, want)
	}
}

// checkNoLocal stores nothing: a Store that wrote a value would be seen by the next checkFrame.
func checkNoLocal(t *testing.T, f *frame.Frame, i int) {
	t.Helper()
	if v, ok := f.Load(i); v != (frame.Val{}) || ok || f.Store(i, ref(77)) {
		t.Fatalf("Load(%d) = %v, %v, or Store took it; it is no local", i, v, ok)
	}
}

// checkNoPush pushes more than there is room for.
func checkNoPush(t *testing.T, f *frame.Frame, vs ...frame.Val) {
	t.Helper()
	if f.Push(vs...) {
		t.Fatalf("Push(%v) took it; there is no room", vs)
	}
}

func checkNoPop(t *testing.T, f *frame.Frame, n int) {
	t.Helper()
	if l, ok := f.Pop(n); l != nil || ok {
		t.Fatalf("Pop(%d) = %v, %v; there are not as many", n, l, ok)
	}
}

func checkPop(t *testing.T, f *frame.Frame, want ...frame.Val) {
	t.Helper()
	if l, ok := f.Pop(len(want)); !slices.Equal(l, want) || !ok {
		t.Fatalf("Pop(%d) = %v, %v; want %v", len(want), l, ok, want)
	}
}

// checkWhole tries all that must not be, and sees that it was not; then it takes the whole stack, and lays it back.
func checkWhole(t *testing.T, f *frame.Frame, b *book) {
	t.Helper()
	for d := range 20 {
		checkNoLocal(t, f, -1-d)
		checkNoLocal(t, f, len(b.locals)+d)
		checkNoPop(t, f, -1-d)
		checkNoPop(t, f, len(b.stack)+1+d)
		checkNoPush(t, f, row(b.room-len(b.stack)+1+d)...)
	}
	for _, i := range far {
		checkNoLocal(t, f, i)
		checkNoPop(t, f, i)
	}
	checkFrame(t, f, b)
	checkPop(t, f, b.stack...)
	if f.Depth() != 0 || !f.Push(b.stack...) {
		t.Fatalf("Depth %d, or Push(%v) did not take it", f.Depth(), b.stack)
	}
	checkFrame(t, f, b)
}

// numbers gives numbers in a row that looks like none.
type numbers struct{ x uint64 }

// below gives a number from 0 to n-1.
func (r *numbers) below(n int) int {
	r.x = r.x*6364136223846793005 + 1442695040888963407
	return int(r.x>>33) % n
}

func (r *numbers) val() frame.Val {
	// A shift of its own makes small numbers and great ones.
	return frame.Val{Ref: r.below(2) == 0, N: int32(r.below(1<<31)*2+r.below(2)) >> r.below(32)}
}

func (r *numbers) vals(n int) []frame.Val {
	list := make([]frame.Val, n)
	for i := range list {
		list[i] = r.val()
	}
	return list
}

// places gives so many places, one in three -1.
func (r *numbers) places(n int) []int {
	list := make([]int, n)
	for i := range list {
		list[i] = r.below(1<<31-1) >> r.below(31)
		if r.below(3) == 0 {
			list[i] = -1
		}
	}
	return list
}
