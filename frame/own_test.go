package frame_test

import (
	"go/parser"
	"go/token"
	"path/filepath"
	"slices"
	"strings"
	"testing"

	"daguerre/frame"
)

// scrawl writes over a list and its spare room.
func scrawl[T any](list []T, with T) {
	list = list[:cap(list)]
	for i := range list {
		list[i] = with
	}
}

// spare gives the list with room behind it, and the whole of that memory.
func spare(list []frame.Val, n int) (given, all []frame.Val) {
	all = append(slices.Clone(list), slices.Repeat([]frame.Val{ref(-77)}, n)...)
	return all[:len(list)], all
}

func TestNewNeitherChangesNorKeepsArgs(t *testing.T) {
	for n := range most + 1 {
		for _, locals := range []int{n, most} {
			given, all := spare(row(n), 20)
			old := slices.Clone(all)
			f, b := mustNew(t, 1, locals, 3, given...)
			for i := range locals {
				f.Store(i, num(int32(i)))
				b.store(i, num(int32(i)))
			}
			f.Push(ref(1), ref(2), ref(3))
			b.push([]frame.Val{ref(1), ref(2), ref(3)})
			f.SetRefs([]int{4, 5, 6})
			b.setRefs([]int{4, 5, 6})
			if !slices.Equal(all, old) {
				t.Fatalf("what was handed in was %v, and is now %v", old, all)
			}
			scrawl(all, ref(99))
			checkWhole(t, f, b)
		}
	}
}

func TestPushNeitherChangesNorKeepsValues(t *testing.T) {
	for n := range most + 1 {
		given, all := spare(row(n), 20)
		old := slices.Clone(all)
		f, b := mustNew(t, 1, 1, most)
		f.Push(given...)
		b.push(given)
		if n < most {
			f.Push(num(8))
			b.push([]frame.Val{num(8)})
		}
		list := make([]int, len(b.refs()))
		f.SetRefs(list)
		b.setRefs(list)
		checkNoPush(t, f, all...)
		if !slices.Equal(all, old) {
			t.Fatalf("what was handed in was %v, and is now %v", old, all)
		}
		scrawl(all, ref(99))
		checkWhole(t, f, b)
	}
}

func TestSetRefsNeitherChangesNorKeepsItsList(t *testing.T) {
	for _, n := range []int{0, 1, 2, 3, 5} {
		all := []int{-1, 7, 0, 9, 11, -5, -5, -5}
		old := slices.Clone(all)
		f, b := mustNew(t, 1, 3, 3, ref(1), num(2), ref(3))
		f.Push(ref(4))
		b.push([]frame.Val{ref(4)})
		f.SetRefs(all[:n])
		b.setRefs(all[:n])
		if !slices.Equal(all, old) {
			t.Fatalf("what was handed in was %v, and is now %v", old, all)
		}
		scrawl(all, 99)
		checkWhole(t, f, b)
	}
}

func TestWhatWasPoppedGoesItsOwnWay(t *testing.T) {
	for n := range most + 1 {
		f, b := mustNew(t, 1, 2, most, ref(1))
		f.Push(row(most)...)
		b.push(row(most))
		got, _ := f.Pop(n)
		want, _ := b.pop(n)
		fresh := slices.Repeat([]frame.Val{ref(5)}, n)
		f.Push(fresh...)
		b.push(fresh)
		f.SetRefs(make([]int, len(b.refs())))
		b.setRefs(make([]int, len(b.refs())))
		if !slices.Equal(got, want) {
			t.Fatalf("what was popped is now %v; it was %v", got, want)
		}
		scrawl(got, ref(99))
		checkWhole(t, f, b)
		// Nor does what one Pop answered share memory with what another did.
		first, _ := f.Pop(most / 2)
		b.pop(most / 2)
		second, _ := f.Pop(most / 2)
		kept, _ := b.pop(most / 2)
		scrawl(first, ref(99))
		if !slices.Equal(second, kept) {
			t.Fatalf("another Pop's answer is now %v; it was %v", second, kept)
		}
		f.Push(num(1), num(2))
		b.push([]frame.Val{num(1), num(2)})
		scrawl(second, ref(99))
		checkWhole(t, f, b)
	}
}

func TestRefsAreNewEachTime(t *testing.T) {
	for n := range most + 1 {
		f, b := mustNew(t, 1, most, most, row(n)...)
		f.Push(row(n)...)
		b.push(row(n))
		first, second := f.Refs(), f.Refs()
		scrawl(first, 99)
		checkWhole(t, f, b)
		if !slices.Equal(second, b.refs()) {
			t.Fatalf("another answer is now %v", second)
		}
		// An answer stays as it was, whatever the frame is told.
		old := slices.Clone(second)
		f.SetRefs(make([]int, len(old)))
		f.Clear()
		f.Push(ref(60), ref(61))
		if !slices.Equal(second, old) {
			t.Fatalf("an answer is now %v; it was %v", second, old)
		}
	}
}

// What a frame answered may be handed to it again.
func TestAnswersAsArguments(t *testing.T) {
	f, b := mustNew(t, 1, 4, 6, row(4)...)
	f.Push(row(5)...)
	b.push(row(5))
	for range 4 {
		got, _ := f.Pop(3)
		want, _ := b.pop(3)
		f.Push(got...)
		b.push(want)
		f.SetRefs(f.Refs())
		checkWhole(t, f, b)
	}
}

// Frames that were made alike go each its own way.
func TestFramesAreApart(t *testing.T) {
	args := row(5)
	var frames []*frame.Frame
	var books []*book
	for range 4 {
		f, b := mustNew(t, 3, 9, 8, args...)
		frames, books = append(frames, f), append(books, b)
	}
	r := &numbers{11}
	for range 200 {
		for i, f := range frames {
			step(t, r, f, books[i])
		}
		for i, f := range frames {
			checkFrame(t, f, books[i])
		}
	}
}

// The same calls have the same answers, whatever other frames were told.
func TestTheSameCallsHaveTheSameAnswers(t *testing.T) {
	tell := func() []int {
		r := &numbers{21}
		f := frame.New(4, 9, 12, r.vals(4)...)
		var answers []int
		for range 300 {
			if f.Push(r.vals(r.below(5))...) {
				answers = append(answers, 1)
			}
			if l, ok := f.Pop(r.below(4)); ok {
				for _, v := range l {
					answers = append(answers, int(v.N))
				}
			}
			f.Store(r.below(12), r.val())
			v, _ := f.Load(r.below(12))
			f.SetRefs(r.places(len(f.Refs())))
			answers = append(answers, int(v.N), f.Depth(), f.Method(), f.Pc())
			answers = append(append(answers, f.Refs()...), f.Refs()...)
			f.Goto(r.below(100))
		}
		return answers
	}
	first := tell()
	for range 5 {
		if again := tell(); !slices.Equal(again, first) {
			t.Fatal("the same calls had other answers")
		}
		frame.New(7, 5, 5, ref(1)).Push(ref(2))
	}
}

func TestNilFrame(t *testing.T) {
	var f *frame.Frame
	f.Goto(5)
	f.Clear()
	for _, n := range append(slices.Clone(far), 0, 1, -1) {
		checkNoLocal(t, f, n)
		checkNoPop(t, f, n)
	}
	checkNoPush(t, f)
	checkNoPush(t, f, num(0))
	checkNoPush(t, f, row(20)...)
	f.SetRefs(nil)
	f.SetRefs([]int{})
	f.SetRefs([]int{1, 2})
	if f.Method() != 0 || f.Pc() != 0 || f.Depth() != 0 || f.Refs() != nil {
		t.Fatalf("Method %d, Pc %d, Depth %d, Refs %v", f.Method(), f.Pc(), f.Depth(), f.Refs())
	}
}

// A Frame that New did not make has no locals, and no room.
func TestZeroFrame(t *testing.T) {
	f := &frame.Frame{}
	f.Goto(5)
	f.Clear()
	f.SetRefs([]int{1})
	checkWhole(t, f, &book{pc: 5})
}

// The chapter says that the layer stands on api alone.
func TestStandsOnApiAlone(t *testing.T) {
	files, err := filepath.Glob("*.go")
	if err != nil {
		t.Fatal(err)
	}
	for _, name := range files {
		if strings.HasSuffix(name, "_test.go") {
			continue
		}
		tree, err := parser.ParseFile(token.NewFileSet(), name, nil, parser.ImportsOnly)
		if err != nil {
			t.Fatal(err)
		}
		for _, spec := range tree.Imports {
			if path := spec.Path.Value; strings.HasPrefix(path, `"daguerre/`) && path != `"daguerre/api"` {
				t.Errorf("%s imports %s", name, path)
			}
		}
	}
}
