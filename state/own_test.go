package state_test

import (
	"slices"
	"testing"

	"daguerre/api"
	"daguerre/hier"
	"daguerre/state"
)

// scrawl writes over a list and its spare room.
func scrawl[T any](list []T, with T) {
	list = list[:cap(list)]
	for i := range list {
		list[i] = with
	}
}

func TestTheClassesMayBeWrittenIntoBehindNew(t *testing.T) {
	l := world()
	s, b := mustNew(t, l)
	c := s.Copy()
	for i := range l {
		scrawl(l[i].Fields, field("zz", "Aa"))
		scrawl(l[i].Methods, api.Method{Name: "zz"})
		scrawl(l[i].Impl, "Zz")
	}
	scrawl(l, cl("Zz", "Zz", static("zz", "I")))
	checkWhole(t, s, bookOf(world()))
	checkWhole(t, c, bookOf(world()))
	if len(b.classes) != len(hier.Given())+len(world()) {
		t.Fatal("the book has other classes")
	}
}

// A State asks its Hier nothing behind New.
func TestTheHierMayBeAnotherOneBehindNew(t *testing.T) {
	h := mustHier(t, world())
	s := state.New(h)
	scrawl(h.Names(), "Zz")
	scrawl(h.Supers("Dd"), "Zz")
	*h = *mustHier(t, nil)
	checkWhole(t, s, bookOf(world()))
	checkWhole(t, s.Copy(), bookOf(world()))
}

// New tells the Hier nothing.
func TestTheHierStays(t *testing.T) {
	h := mustHier(t, world())
	for range 3 {
		s := state.New(h)
		s.Set("Aa", wrong)
		s.SetRefs(slices.Repeat([]int{4}, 8))
		s.Put("Aa", "n", num(9))
		if c, ok := h.Class("Aa"); !ok || len(c.Fields) != 6 || !slices.Equal(h.Supers("Dd"), []string{"Dd", "Bb", "Aa", "Object"}) || !slices.Equal(h.Names(), bookOf(world()).classNames()[:19]) {
			t.Fatal("the Hier is another one")
		}
	}
}

func TestGivenMayBeWrittenInto(t *testing.T) {
	scrawl(hier.Given(), "Zz")
	s, b := mustNew(t, world())
	scrawl(hier.Given(), "Zz")
	checkWhole(t, s, b)
}

func TestSetRefsNeitherChangesNorKeepsItsList(t *testing.T) {
	for _, n := range []int{0, 7, 8, 9, 12} {
		all := []int{-1, 7, 0, 9, 11, -1, 40, 50, -5, -5, -5, -5}
		old := slices.Clone(all)
		s, b := mustNew(t, world())
		s.SetRefs(all[:n])
		b.setRefs(all[:n])
		if !slices.Equal(all, old) {
			t.Fatalf("what was handed in was %v, and is now %v", old, all)
		}
		scrawl(all, 99)
		checkWhole(t, s, b)
		if slices.ContainsFunc(all, func(x int) bool { return x != 99 }) {
			t.Fatalf("what was handed in is written into later: %v", all)
		}
	}
}

func TestRefsAreNewEachTime(t *testing.T) {
	for seed := range 50 {
		r := &numbers{uint64(seed)}
		s, b := mustNew(t, r.classes())
		list := r.places(len(b.refs()))
		s.SetRefs(list)
		b.setRefs(list)
		first, second := s.Refs(), s.Refs()
		scrawl(first, 99)
		checkState(t, s, b)
		if !slices.Equal(second, b.refs()) {
			t.Fatalf("another answer is now %v", second)
		}
		// An answer stays as it was, whatever the State is told.
		s.SetRefs(make([]int, len(second)))
		if !slices.Equal(second, b.refs()) {
			t.Fatalf("an answer is now %v; it was %v", second, b.refs())
		}
	}
}

func TestCopyWrittenOut(t *testing.T) {
	s, b := mustNew(t, world())
	s.Set("Aa", running)
	b.set("Aa", running)
	s.Put("Bb", "x", num(4))
	b.put("Bb", "x", num(4))
	s.SetRefs([]int{1, 2, 3, 4, 5, 6, 7, -1})
	b.setRefs([]int{1, 2, 3, 4, 5, 6, 7, -1})
	c := s.Copy()
	if c == nil || c == s {
		t.Fatal("its Copy is nil, or itself")
	}
	checkWhole(t, c, b)
	for _, x := range []struct {
		turn func(s *state.State)
		told func(b *book)
	}{
		{func(s *state.State) { s.Set("Aa", wrong) }, func(b *book) { b.set("Aa", wrong) }},
		{func(s *state.State) { s.Set("Object", none) }, func(b *book) { b.set("Object", none) }},
		{func(s *state.State) { s.Put("Bb", "x", num(5)) }, func(b *book) { b.put("Bb", "x", num(5)) }},
		{func(s *state.State) { s.Put("Aa", "q", ref(50)) }, func(b *book) { b.put("Aa", "q", ref(50)) }},
		{func(s *state.State) { s.SetRefs([]int{8, 7, 6, 5, 4, 3, 2, 1}) }, func(b *book) { b.setRefs([]int{8, 7, 6, 5, 4, 3, 2, 1}) }},
	} {
		// The copy is turned, then the one that it is a copy of, then a copy of the copy.
		elder, elderBook := s.Copy(), b.copy()
		young, youngBook := elder.Copy(), b.copy()
		third, thirdBook := young.Copy(), b.copy()
		x.turn(young)
		x.told(youngBook)
		checkAll(t, []*state.State{s, elder, young, third}, []*book{b, elderBook, youngBook, thirdBook})
		again := young.Copy()
		x.turn(third)
		x.told(thirdBook)
		checkAll(t, []*state.State{s, elder, young, third, again}, []*book{b, elderBook, youngBook, thirdBook, youngBook})
		young.SetRefs(slices.Repeat([]int{70}, 8))
		young.Set("Bb", running)
		youngBook = youngBook.copy()
		youngBook.setRefs(slices.Repeat([]int{70}, 8))
		youngBook.set("Bb", running)
		x.turn(elder)
		x.told(elderBook)
		checkAll(t, []*state.State{s, elder, young, third, again}, []*book{b, elderBook, youngBook, thirdBook, thirdBook})
	}
}

func TestStatesOfOneHierAreApart(t *testing.T) {
	l := world()
	h := mustHier(t, l)
	var states []*state.State
	var books []*book
	for range 4 {
		states, books = append(states, state.New(h)), append(books, bookOf(l))
	}
	r := &numbers{11}
	for k := range 200 {
		for i, s := range states {
			step(t, r, s, books[i])
		}
		if k%10 == 0 {
			checkAll(t, states, books)
		}
	}
	checkAll(t, states, books)
}

// The same calls have the same answers, whatever other States were told.
func TestTheSameCallsHaveTheSameAnswers(t *testing.T) {
	tell := func() []int {
		r := &numbers{21}
		s := state.New(mustHier(t, world()))
		classes, fields := bookOf(world()).classNames(), names()
		var answers []int
		for range 600 {
			s.Set(pick(r, classes), r.below(5))
			c, at := s.Next(pick(r, classes))
			answers = append(answers, at, s.At(c), s.At(pick(r, classes)))
			if s.Put(pick(r, classes), pick(r, fields), r.val()) {
				answers = append(answers, 1)
			}
			v, _ := s.Get(pick(r, classes), pick(r, fields))
			answers = append(append(answers, int(v.N)), s.Refs()...)
			if r.below(9) == 0 {
				s.SetRefs(r.places(8))
			}
			if r.below(9) == 0 {
				s = s.Copy()
			}
		}
		return answers
	}
	first := tell()
	for range 5 {
		if again := tell(); !slices.Equal(again, first) {
			t.Fatal("the same calls had other answers")
		}
		other := state.New(mustHier(t, world()))
		other.Set("Aa", wrong)
		other.Put("Aa", "n", num(3))
	}
}
