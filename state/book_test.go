package state_test

import (
	"testing"

	"daguerre/api"
	"daguerre/state"
)

// step tells s and the book one thing, that may be or not.
func step(t *testing.T, r *numbers, s *state.State, b *book) {
	t.Helper()
	classes := b.classNames()
	if r.below(4) > 0 {
		classes = classes[:len(b.classes)]
	}
	switch c := pick(r, classes); r.below(6) {
	case 0, 1:
		at := r.below(6) - 1
		s.Set(c, at)
		b.set(c, at)
	case 2, 3, 4:
		f, v := pick(r, names()), r.val()
		checkPut(t, s, c, f, v, b.put(c, f, v))
	case 5:
		n := len(b.refs())
		if r.below(3) == 0 {
			n = max(n+r.below(5)-2, 0)
		}
		list := r.places(n)
		s.SetRefs(list)
		b.setRefs(list)
	}
}

func TestMadeStates(t *testing.T) {
	for seed := range 200 {
		r := &numbers{uint64(seed) * 77}
		s, b := mustNew(t, r.classes())
		for k := range 60 {
			step(t, r, s, b)
			if k%6 == 0 {
				checkState(t, s, b)
			}
		}
		checkWhole(t, s, b)
	}
}

// Copies, copies of copies, and other States of the same Hier: each goes its own way.
func TestMadeCopies(t *testing.T) {
	for seed := range 80 {
		r := &numbers{uint64(seed)*99 + 5}
		l := r.classes()
		h := mustHier(t, l)
		states, books := []*state.State{state.New(h), state.New(h)}, []*book{bookOf(l), bookOf(l)}
		for k := range 60 {
			i := r.below(len(states))
			if r.below(8) == 0 && len(states) < 7 {
				states, books = append(states, states[i].Copy()), append(books, books[i].copy())
				checkState(t, states[len(states)-1], books[i])
			}
			step(t, r, states[i], books[i])
			if k%20 == 0 {
				checkAll(t, states, books)
			}
		}
		states, books = append(states, state.New(h)), append(books, bookOf(l))
		checkAll(t, states, books)
	}
}

func checkAll(t *testing.T, states []*state.State, books []*book) {
	t.Helper()
	for i, s := range states {
		checkState(t, s, books[i])
	}
}

// deed is one thing that a small State is told.
func deed(t *testing.T, s *state.State, b *book, which int) {
	t.Helper()
	switch which {
	case 0, 1, 2, 3:
		s.Set("Aa", which)
		b.set("Aa", which)
	case 4, 5:
		s.Set("Bb", which-2)
		b.set("Bb", which-2)
	case 6:
		checkPut(t, s, "Aa", "r", ref(5), b.put("Aa", "r", ref(5)))
	case 7:
		checkPut(t, s, "Bb", "x", num(6), b.put("Bb", "x", num(6)))
	case 8:
		checkPut(t, s, "Bb", "r", num(7), b.put("Bb", "r", num(7)))
	case 9:
		list := []int{8, -1}
		s.SetRefs(list)
		b.setRefs(list)
	}
}

// All orders of three of ten deeds, with a copy ahead of each one; the elder ones stay as they were.
func TestEachSmallState(t *testing.T) {
	const deeds = 10
	l := []api.Class{cl("Bb", "Aa", static("x", "I"), static("r", "[I")), cl("Aa", "Object", field("f", "Aa"), static("r", "Bb"))}
	for way := range deeds * deeds * deeds {
		s, b := mustNew(t, l)
		var states []*state.State
		var books []*book
		for k, left := 0, way; k < 3; k, left = k+1, left/deeds {
			states, books = append(states, s), append(books, b)
			s, b = s.Copy(), b.copy()
			deed(t, s, b, left%deeds)
		}
		checkAll(t, append(states, s), append(books, b))
	}
}
