package state_test

import (
	"math"
	"slices"
	"testing"

	"daguerre/api"
	"daguerre/frame"
	"daguerre/hier"
	"daguerre/state"
)

func TestNumbers(t *testing.T) {
	if state.None != none || state.Running != running || state.Done != done || state.Wrong != wrong {
		t.Fatal(state.None, state.Running, state.Done, state.Wrong)
	}
}

func TestNewWrittenOut(t *testing.T) {
	s, b := mustNew(t, world())
	for _, c := range hier.Given() {
		checkAt(t, s, c, done)
	}
	for _, c := range []string{"Dd", "Plain", "Bb", "Go", "Aa", "MyErr", "Fly", "Empty", "Other"} {
		checkAt(t, s, c, none)
	}
	for _, c := range strange() {
		checkAt(t, s, c, 0)
	}
	for _, x := range []struct {
		c, f string
		v    frame.Val
		ok   bool
	}{
		{"Dd", "x", num(0), true}, {"Dd", "y", num(0), false}, {"Dd", "deep", ref(0), true}, {"Dd", "r", num(0), false},
		{"Bb", "x", num(0), true}, {"Bb", "r", ref(0), true}, {"Bb", "q", num(0), false}, {"Bb", "deep", num(0), false},
		{"Aa", "r", ref(0), true}, {"Aa", "f", num(0), false}, {"Aa", "q", ref(0), true}, {"Aa", "n", num(0), true}, {"Aa", "g", num(0), false}, {"Aa", "m", num(0), true}, {"Aa", "x", num(0), false},
		{"Plain", "x", num(0), false}, {"Plain", "r", num(0), false}, {"Empty", "last", num(0), false}, {"MyErr", "last", ref(0), true}, {"MyErr", "count", num(0), true},
		{"Other", "o", ref(0), true}, {"Other", "g", ref(0), true}, {"Other", "i", ref(0), true}, {"Go", "x", num(0), false}, {"Object", "x", num(0), false}, {"Zz", "x", num(0), false},
	} {
		checkGet(t, s, x.c, x.f, x.v, x.ok)
	}
	checkRefs(t, s, -1, -1, -1, -1, -1, -1, -1, -1)
	checkWhole(t, s, b)
}

// Sets of no class, of classes without fields, with fields that are not static, with as many as may be.
func TestNewOfEachSort(t *testing.T) {
	many := func(n int, typ string) []api.Field {
		var list []api.Field
		for _, name := range names()[:n] {
			list = append(list, static(name, typ))
		}
		return list
	}
	var deep []api.Class
	for i := range api.MaxClasses {
		super := "ClassErr"
		if i > 0 {
			super = classAt(i - 1)
		}
		deep = append([]api.Class{cl(classAt(i), super, many(api.MaxFields, []string{"I", "[C3", "Object"}[i%3])...)}, deep...)
	}
	for _, l := range [][]api.Class{
		nil, {}, {cl("Aa", "Object")}, {cl("Aa", "Object", field("x", "I"), field("r", "Aa"))}, {cl("Aa", "Object", static("x", "I"))}, {cl("Aa", "Object", static("r", "Aa"))},
		{face("Aa"), face("Bb", "Aa")}, {cl("Aa", "Object", many(api.MaxFields, "I")...)}, {cl("Aa", "Object", many(api.MaxFields, "[Aa")...)}, deep,
	} {
		s, b := mustNew(t, l)
		checkWhole(t, s, b)
		s.SetRefs((&numbers{5}).places(len(b.refs())))
		b.setRefs((&numbers{5}).places(len(b.refs())))
		checkState(t, s, b)
	}
}

// Types, each as a static's.
func TestNewOfEachType(t *testing.T) {
	for typ, isRef := range map[string]bool{"I": false, "[I": true, "[[I": true, "Aa": true, "[Aa": true, "[[Aa": true, "Object": true, "Go": true, "[Go": true, "MathErr": true, "Zz": true, "II": true, "V1": true} {
		s, _ := mustNew(t, []api.Class{cl("Aa", "Object", static("x", typ)), face("Go")})
		checkGet(t, s, "Aa", "x", frame.Val{Ref: isRef}, true)
		checkPut(t, s, "Aa", "x", frame.Val{Ref: !isRef}, false)
		checkPut(t, s, "Aa", "x", frame.Val{Ref: isRef, N: 6}, true)
		checkGet(t, s, "Aa", "x", frame.Val{Ref: isRef, N: 6}, true)
		if isRef {
			checkRefs(t, s, 5)
		} else {
			checkRefs(t, s)
		}
	}
}

func TestSetAndAt(t *testing.T) {
	all := bookOf(world()).classNames()
	for _, c := range all {
		s, b := mustNew(t, world())
		for _, at := range []int{0, 1, 2, 3, 2, 1, 0, 3, 1, 3, 0, 2, 0} {
			s.Set(c, at)
			b.set(c, at)
			checkAt(t, s, c, b.at[c])
			for _, n := range far() {
				s.Set(c, n)
				checkAt(t, s, c, b.at[c])
			}
			checkState(t, s, b)
		}
	}
}

func TestSetWrittenOut(t *testing.T) {
	s, _ := mustNew(t, world())
	for _, x := range []struct{ at, want int }{{1, 1}, {2, 2}, {3, 3}, {4, 3}, {-1, 3}, {0, 0}, {-1, 0}, {4, 0}, {3, 3}} {
		s.Set("Bb", x.at)
		checkAt(t, s, "Bb", x.want)
		checkAt(t, s, "Aa", none)
		checkAt(t, s, "Object", done)
	}
	s.Set("Object", running)
	checkAt(t, s, "Object", running)
	s.Set("Zz", done)
	checkAt(t, s, "Zz", 0)
}

func TestNextWrittenOut(t *testing.T) {
	s, _ := mustNew(t, world())
	for _, x := range []struct {
		c, name string
		at      int
	}{
		{"Dd", "Aa", none}, {"Bb", "Aa", none}, {"Aa", "Aa", none}, {"Plain", "Plain", none}, {"Go", "Go", none}, {"Fly", "Fly", none}, {"MyErr", "MyErr", none}, {"Empty", "MyErr", none},
		{"Object", "", done}, {"Thrown", "", done}, {"NullErr", "", done}, {"ClassErr", "", done}, {"Zz", "", done}, {"", "", done}, {"[Aa", "", done}, {"I", "", done},
	} {
		checkNext(t, s, x.c, x.name, x.at)
	}
	for _, x := range []struct {
		c    string
		at   int
		name string // Next of Dd
		how  int
	}{
		{"Aa", running, "Bb", none}, {"Bb", running, "Dd", none}, {"Dd", running, "", done}, {"Dd", done, "", done}, {"Bb", done, "", done}, {"Aa", done, "", done},
		{"Dd", none, "Dd", none}, {"Bb", wrong, "Bb", wrong}, {"Aa", none, "Aa", none}, {"Aa", wrong, "Aa", wrong}, {"Bb", none, "Aa", wrong}, {"Aa", done, "Bb", none},
		{"Dd", wrong, "Bb", none}, {"Bb", done, "Dd", wrong}, {"Go", wrong, "Dd", wrong}, {"Dd", done, "", done}, {"Object", none, "Object", none}, {"Aa", wrong, "Object", none},
		{"Object", wrong, "Object", wrong}, {"Object", running, "Aa", wrong}, {"Plain", wrong, "Aa", wrong}, {"Aa", running, "", done},
	} {
		s.Set(x.c, x.at)
		checkNext(t, s, "Dd", x.name, x.how)
		checkNext(t, s, "Dd", x.name, x.how)
	}
	checkNext(t, s, "Go", "Go", wrong)
	s.Set("Go", done)
	checkNext(t, s, "Go", "", done) // what it is an Impl of is none of its Supers
	s.Set("Thrown", none)
	checkNext(t, s, "Empty", "Thrown", none)
	s.Set("MathErr", wrong)
	checkNext(t, s, "Empty", "Thrown", none)
	s.Set("Thrown", done)
	checkNext(t, s, "Empty", "MathErr", wrong)
	checkNext(t, s, "NullErr", "", done)
}

// Next tells the same again: it changes nothing.
func TestNextSetsNothing(t *testing.T) {
	s, b := mustNew(t, world())
	for range 3 {
		for _, c := range b.classNames() {
			s.Next(c)
		}
		checkState(t, s, b)
	}
}

// All ways of five classes one above the other.
func TestNextOfAllWays(t *testing.T) {
	l := []api.Class{cl("Dd", "Bb"), cl("Bb", "Cc"), cl("Cc", "Aa"), cl("Aa", "Object"), cl("Side", "Aa")}
	s, b := mustNew(t, l)
	line := []string{"Object", "Aa", "Cc", "Bb", "Dd"}
	for way := range 4 * 4 * 4 * 4 * 4 {
		for i, left := 0, way; i < len(line); i, left = i+1, left/4 {
			s.Set(line[i], left%4)
			b.set(line[i], left%4)
		}
		s.Set("Side", way%4)
		b.set("Side", way%4)
		for _, c := range append(line, "Side", "Thrown", "Zz") {
			name, at := b.next(c)
			checkNext(t, s, c, name, at)
			checkAt(t, s, c, b.at[c])
		}
	}
}

func TestGetAndPutWrittenOut(t *testing.T) {
	s, b := mustNew(t, world())
	for _, x := range []struct {
		c, f string
		v    frame.Val
		ok   bool
	}{
		{"Bb", "x", num(4), true}, {"Bb", "x", ref(9), false}, {"Bb", "x", ref(0), false}, {"Bb", "r", ref(8), true}, {"Bb", "r", num(9), false}, {"Bb", "r", num(0), false},
		{"Dd", "x", num(5), true}, {"Dd", "r", ref(3), false}, {"Dd", "n", num(3), false}, {"Bb", "q", ref(3), false}, {"Bb", "n", num(3), false}, {"Aa", "x", num(3), false},
		{"Aa", "r", ref(2), true}, {"Aa", "f", num(1), false}, {"Aa", "g", ref(1), false}, {"Aa", "q", ref(3), true}, {"Aa", "n", num(-6), true}, {"Aa", "m", num(math.MinInt32), true},
		{"Dd", "deep", ref(math.MaxInt32), true}, {"Other", "g", ref(1), true}, {"Go", "g", ref(1), false}, {"Empty", "count", num(1), false}, {"MyErr", "count", num(1), true},
		{"Zz", "x", num(1), false}, {"Aa", "zz", num(1), false}, {"Aa", "", num(1), false}, {"", "x", num(1), false}, {"Aa", "$init", num(1), false}, {"Object", "x", num(1), false},
	} {
		old, _ := s.Get(x.c, x.f)
		checkPut(t, s, x.c, x.f, x.v, x.ok)
		if b.put(x.c, x.f, x.v); !x.ok {
			x.v = old
		}
		if v, _ := s.Get(x.c, x.f); v != x.v {
			t.Fatalf("Get(%q, %q) = %v behind Put; want %v", x.c, x.f, v, x.v)
		}
		checkState(t, s, b)
	}
	checkGet(t, s, "Bb", "x", num(4), true)
	checkGet(t, s, "Dd", "x", num(5), true)
	checkGet(t, s, "Bb", "r", ref(8), true)
	checkGet(t, s, "Aa", "r", ref(2), true)
	checkRefs(t, s, math.MaxInt32-1, 7, 1, 2, -1, -1, 0, -1)
	checkWhole(t, s, b)
}

// Whether a class is begun is not asked of its statics, nor the other way round.
func TestStaticsOfClassesOfEachWay(t *testing.T) {
	for at := range 4 {
		s, b := mustNew(t, world())
		for _, c := range b.classes {
			s.Set(c.Name, at)
			b.set(c.Name, at)
		}
		checkPut(t, s, "Dd", "x", num(3), true)
		checkPut(t, s, "Aa", "q", ref(3), true)
		s.SetRefs(s.Refs())
		b.put("Dd", "x", num(3))
		b.put("Aa", "q", ref(3))
		checkWhole(t, s, b)
	}
}

// Names that run into one another when they are laid side by side.
func TestNamesSideBySide(t *testing.T) {
	s, b := mustNew(t, []api.Class{cl("Aa", "Object", static("ab", "I"), static("b", "I")), cl("Aaa", "Aa", static("b", "I"), static("ab", "I")), cl("Aaab", "Aaa", static("a", "I"))})
	for i, x := range [][2]string{{"Aa", "ab"}, {"Aa", "b"}, {"Aaa", "b"}, {"Aaa", "ab"}, {"Aaab", "a"}} {
		checkPut(t, s, x[0], x[1], num(int32(i+1)), true)
		b.put(x[0], x[1], num(int32(i+1)))
	}
	checkGet(t, s, "Aa", "ab", num(1), true)
	checkGet(t, s, "Aaa", "b", num(3), true)
	checkGet(t, s, "Aaab", "ab", num(0), false)
	checkGet(t, s, "Aaab", "", num(0), false)
	checkWhole(t, s, b)
}

func TestPutOfEachNumber(t *testing.T) {
	s, b := mustNew(t, world())
	for _, n := range []int32{0, 1, -1, 2, 255, 256, 1 << 20, math.MaxInt32, math.MaxInt32 - 1, math.MinInt32, math.MinInt32 + 1, 0} {
		checkPut(t, s, "Aa", "n", num(n), true)
		checkPut(t, s, "Aa", "q", ref(n), true)
		b.put("Aa", "n", num(n))
		b.put("Aa", "q", ref(n))
		checkGet(t, s, "Aa", "n", num(n), true)
		checkGet(t, s, "Aa", "q", ref(n), true)
		checkRefs(t, s, -1, -1, -1, int(n)-1, -1, -1, -1, -1)
		checkState(t, s, b)
	}
}

func TestSetRefsWrittenOut(t *testing.T) {
	s, b := mustNew(t, world())
	s.Put("Aa", "n", num(44))
	b.put("Aa", "n", num(44))
	s.SetRefs([]int{10, 20, -1, 40, 0, 60, -1, math.MaxInt32 - 1})
	for _, x := range []struct {
		c, f string
		v    frame.Val
	}{
		{"Dd", "deep", ref(11)}, {"Bb", "r", ref(21)}, {"Aa", "r", ref(0)}, {"Aa", "q", ref(41)}, {"MyErr", "last", ref(1)}, {"Other", "o", ref(61)}, {"Other", "g", ref(0)}, {"Other", "i", ref(math.MaxInt32)},
		{"Dd", "x", num(0)}, {"Bb", "x", num(0)}, {"Aa", "n", num(44)}, {"Aa", "m", num(0)}, {"MyErr", "count", num(0)},
	} {
		checkGet(t, s, x.c, x.f, x.v, true)
		b.put(x.c, x.f, x.v)
	}
	checkRefs(t, s, 10, 20, -1, 40, 0, 60, -1, math.MaxInt32-1)
	checkWhole(t, s, b)
	s.SetRefs(slices.Repeat([]int{-1}, 8))
	checkRefs(t, s, -1, -1, -1, -1, -1, -1, -1, -1)
	checkPut(t, s, "Aa", "q", num(3), false) // null is a reference
	checkPut(t, s, "Aa", "q", ref(3), true)
	checkRefs(t, s, -1, -1, -1, 2, -1, -1, -1, -1)
}

func TestSetRefsOfFewerAndOfMore(t *testing.T) {
	s, b := mustNew(t, world())
	s.SetRefs([]int{1, 2, 3, 4, 5, 6, 7, 8})
	b.setRefs([]int{1, 2, 3, 4, 5, 6, 7, 8})
	for n := range 30 {
		if n != 8 {
			s.SetRefs(slices.Repeat([]int{99}, n))
			s.SetRefs(slices.Repeat([]int{-1}, n))
			checkState(t, s, b)
		}
	}
	s.SetRefs(nil)
	s.SetRefs([]int{})
	checkState(t, s, b)
	// Of no references the empty list is as many.
	s, b = mustNew(t, []api.Class{cl("Aa", "Object", static("x", "I"))})
	s.Put("Aa", "x", num(6))
	b.put("Aa", "x", num(6))
	for _, l := range [][]int{nil, {}, {1}, {-1}, {1, 2}} {
		s.SetRefs(l)
		checkState(t, s, b)
		checkRefs(t, s)
	}
}

// No sum wraps: a place that no reference has room for is no one's, and nothing happens.
func TestSetRefsOfPlacesThatAreTooFar(t *testing.T) {
	for _, place := range tooFar() {
		for i := range 8 {
			s, b := mustNew(t, world())
			list := []int{1, 2, 3, 4, 5, 6, 7, 8}
			list[i] = place
			s.SetRefs(list)
			checkState(t, s, b)
		}
	}
	for _, place := range []int{math.MaxInt32 - 1, math.MaxInt32 - 2, math.MinInt32 - 1, math.MinInt32, -2} {
		s, _ := mustNew(t, world())
		s.SetRefs([]int{place, 4, 5, 6, 7, 8, 9, place})
		checkRefs(t, s, place, 4, 5, 6, 7, 8, 9, place)
		checkGet(t, s, "Dd", "deep", ref(int32(place+1)), true)
	}
}

func TestNewOfNoHier(t *testing.T) {
	for _, h := range []*hier.Hier{nil, {}} {
		s := state.New(h)
		for _, s := range []*state.State{s, s.Copy(), s.Copy().Copy()} {
			for _, c := range append(strange(), "Object", "Aa") {
				s.Set(c, wrong)
				checkAt(t, s, c, 0)
				checkGet(t, s, c, "x", num(0), false)
				checkPut(t, s, c, "x", num(0), false)
				if name, _ := s.Next(c); name != "" {
					t.Fatalf("Next(%q) = %q", c, name)
				}
			}
			s.SetRefs(nil)
			s.SetRefs([]int{1})
			checkRefs(t, s)
		}
	}
}

func TestNilState(t *testing.T) {
	var s *state.State
	for _, c := range bookOf(world()).classNames() {
		for at := -1; at < 5; at++ {
			s.Set(c, at)
		}
		checkAt(t, s, c, 0)
		checkNext(t, s, c, "", 0)
		for _, f := range names() {
			checkGet(t, s, c, f, num(0), false)
			checkPut(t, s, c, f, num(0), false)
			checkPut(t, s, c, f, ref(1), false)
		}
	}
	for _, l := range [][]int{nil, {}, {1}, {-1, 2, 3}} {
		s.SetRefs(l)
	}
	if s.Refs() != nil || s.Copy() != nil {
		t.Fatalf("Refs %v, Copy %v", s.Refs(), s.Copy())
	}
}

// A State that New did not make has no classes.
func TestZeroState(t *testing.T) {
	s := &state.State{}
	s.Set("Object", done)
	s.SetRefs([]int{1})
	checkPut(t, s, "Aa", "x", num(1), false)
	b := &book{}
	checkWhole(t, s, b)
	c := s.Copy()
	if c == nil || c == s {
		t.Fatal("its Copy is nil, or itself")
	}
	checkWhole(t, c, b)
}
