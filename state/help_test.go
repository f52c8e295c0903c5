package state_test

import (
	"maps"
	"math"
	"slices"
	"strconv"
	"strings"
	"testing"

	"daguerre/api"
	"daguerre/frame"
	"daguerre/hier"
	"daguerre/state"
)

// The numbers are the chapter's; that the package's own are these is a test of its own.
const none, running, done, wrong = 0, 1, 2, 3

func num(n int32) frame.Val { return frame.Val{N: n} }

func ref(n int32) frame.Val { return frame.Val{Ref: true, N: n} }

func static(name, typ string) api.Field { return api.Field{Name: name, Type: typ, Static: true} }

func field(name, typ string) api.Field { return api.Field{Name: name, Type: typ} }

func cl(name, super string, fields ...api.Field) api.Class {
	return api.Class{Name: name, Super: super, Fields: fields}
}

func face(name string, impl ...string) api.Class {
	return api.Class{Name: name, Super: "Object", Interface: true, Impl: impl}
}

// world gives a set in which neither the names nor what comes from what stands in order, with statics of each sort.
func world() []api.Class {
	dd := cl("Dd", "Bb", static("x", "I"), field("y", "Bb"), static("deep", "[[Aa"))
	dd.Impl = []string{"Go", "Fly"}
	aa := cl("Aa", "Object", static("r", "[I"), field("f", "I"), static("q", "Aa"), static("n", "I"), field("g", "[Aa"), static("m", "I"))
	aa.Methods = []api.Method{{Name: "x", Ret: "V", Static: true, Code: []api.Ins{{Op: api.ORet}}}}
	return []api.Class{
		dd,
		cl("Plain", "Object", field("x", "I"), field("r", "Aa")),
		cl("Bb", "Aa", static("x", "I"), static("r", "Bb"), field("q", "Aa")),
		face("Go", "Fly"),
		aa,
		cl("MyErr", "MathErr", static("last", "MyErr"), static("count", "I")),
		face("Fly"),
		cl("Empty", "MyErr"),
		cl("Other", "Object", static("o", "Object"), static("g", "Go"), static("i", "[[I")),
	}
}

// names are those of the fields of world, and some that none of its fields has.
func names() []string {
	return []string{"x", "y", "deep", "r", "f", "q", "n", "g", "m", "last", "count", "o", "i", "", "X", "zz", "$init", "x ", "\x00", "r.q", strings.Repeat("x", 5000)}
}

// strange gives texts that are no class of any set here.
func strange() []string {
	return []string{"", "I", "V", "N", "T", "Zz", "aa", "AA", "Aa ", "A", "Aax", "[Aa", "[[Aa", "[I", "Object\x00", "object", "$init", "\xff", "Aa.r", strings.Repeat("A", 5000)}
}

// A book is a State by the chapter's words, of texts alone.
type book struct {
	classes []api.Class
	at      map[string]int
	values  map[string]frame.Val // by the class's name, a stop, the field's name
}

func bookOf(l []api.Class) *book {
	b := &book{at: map[string]int{}, values: map[string]frame.Val{}}
	for _, name := range []string{"Object", "Thrown", "NullErr", "RangeErr", "MathErr", "CastErr", "SizeErr", "StoreErr", "InitErr", "ClassErr"} {
		super := "Thrown"
		if name == "Thrown" {
			super = "Object"
		}
		if name == "Object" {
			super = ""
		}
		b.classes = append(b.classes, cl(name, super))
		b.at[name] = done
	}
	for _, c := range l {
		b.classes = append(b.classes, c)
		b.at[c.Name] = none
		for _, f := range c.Fields {
			if f.Static {
				b.values[c.Name+"."+f.Name] = frame.Val{Ref: f.Type != "I"}
			}
		}
	}
	return b
}

func (b *book) copy() *book {
	return &book{classes: b.classes, at: maps.Clone(b.at), values: maps.Clone(b.values)}
}

func (b *book) set(c string, at int) {
	if _, ok := b.at[c]; ok && slices.Contains([]int{none, running, done, wrong}, at) {
		b.at[c] = at
	}
}

// line gives the class and those above it, Object first.
func (b *book) line(name string) []string {
	for _, c := range b.classes {
		if c.Name == name {
			return append(b.line(c.Super), name)
		}
	}
	return nil
}

func (b *book) next(c string) (string, int) {
	line := b.line(c)
	how := func(want int) int {
		return slices.IndexFunc(line, func(name string) bool { return b.at[name] == want })
	}
	first, bad := how(none), how(wrong)
	switch {
	case first < 0 && bad < 0:
		return "", done
	case bad < 0 || 0 <= first && first < bad:
		return line[first], none
	}
	return line[bad], wrong
}

func (b *book) get(c, f string) (frame.Val, bool) {
	v, ok := b.values[c+"."+f]
	return v, ok
}

func (b *book) put(c, f string, v frame.Val) bool {
	old, ok := b.get(c, f)
	if !ok || old.Ref != v.Ref {
		return false
	}
	b.values[c+"."+f] = v
	return true
}

// references gives the texts that the static references stand under, in their order.
func (b *book) references() []string {
	var list []string
	for _, c := range b.classes {
		for _, f := range c.Fields {
			if f.Static && f.Type != "I" {
				list = append(list, c.Name+"."+f.Name)
			}
		}
	}
	return list
}

func (b *book) refs() []int {
	var places []int
	for _, s := range b.references() {
		places = append(places, int(b.values[s].N)-1)
	}
	return places
}

func (b *book) setRefs(l []int) {
	list := b.references()
	if len(list) != len(l) {
		return
	}
	for i, s := range list {
		b.values[s] = ref(int32(l[i] + 1))
	}
}

// classNames gives the names of the classes that are there, and others.
func (b *book) classNames() []string {
	var list []string
	for _, c := range b.classes {
		list = append(list, c.Name)
	}
	return append(list, strange()...)
}

func mustHier(t *testing.T, l []api.Class) *hier.Hier {
	t.Helper()
	h, err := hier.New(l)
	if err != api.OK {
		t.Fatalf("hier.New: %v", err)
	}
	return h
}

func mustNew(t *testing.T, l []api.Class) (*state.State, *book) {
	t.Helper()
	s := state.New(mustHier(t, l))
	if s == nil {
		t.Fatal("New is nil")
	}
	return s, bookOf(l)
}

func checkAt(t *testing.T, s *state.State, c string, want int) {
	t.Helper()
	if got := s.At(c); got != want {
		t.Fatalf("At(%.20q) = %d; want %d", c, got, want)
	}
}

func checkNext(t *testing.T, s *state.State, c, name string, at int) {
	t.Helper()
	if got, how := s.Next(c); got != name || how != at {
		t.Fatalf("Next(%.20q) = %q, %d; want %q, %d", c, got, how, name, at)
	}
}

func checkGet(t *testing.T, s *state.State, c, f string, want frame.Val, ok bool) {
	t.Helper()
	if v, is := s.Get(c, f); v != want || is != ok {
		t.Fatalf("Get(%.20q, %.20q) = %v, %v; want %v, %v", c, f, v, is, want, ok)
	}
}

func checkPut(t *testing.T, s *state.State, c, f string, v frame.Val, ok bool) {
	t.Helper()
	if is := s.Put(c, f, v); is != ok {
		t.Fatalf("Put(%.20q, %.20q, %v) = %v; want %v", c, f, v, is, ok)
	}
}

func checkRefs(t *testing.T, s *state.State, want ...int) {
	t.Helper()
	if got := s.Refs(); !slices.Equal(got, want) {
		t.Fatalf("Refs %v; want %v", got, want)
	}
}

// checkState asks s all that can be asked without telling it anything.
func checkState(t *testing.T, s *state.State, b *book) {
	t.Helper()
	fields := names()
	for _, c := range b.classNames() {
		checkAt(t, s, c, b.at[c])
		name, at := b.next(c)
		checkNext(t, s, c, name, at)
		for _, f := range fields {
			v, ok := b.get(c, f)
			checkGet(t, s, c, f, v, ok)
		}
	}
	checkRefs(t, s, b.refs()...)
}

// far are numbers of no way that a class may be, some of which would be one if they were cut to fewer bits.
func far() []int {
	list := []int{-1, -2, -3, 4, 5, 6, 7, 100, -100, math.MinInt, math.MinInt + 2, math.MaxInt, math.MaxInt - 1}
	for _, bits := range []int{8, 16, 31, 32, 33, 62} {
		for d := range 4 {
			list = append(list, 1<<bits+d, -1<<bits+d)
		}
	}
	return list
}

// tooFar are places that, and 1 more, are beyond 32 bits.
func tooFar() []int {
	return []int{math.MaxInt, math.MaxInt - 1, math.MinInt, math.MinInt + 1, math.MaxInt32, math.MaxInt32 + 1, math.MinInt32 - 2, 1 << 32, 1<<32 - 1, 1<<32 + 5, -1 << 32, -1<<32 - 1}
}

// checkWhole tells s all that must change nothing, and sees that it did not.
func checkWhole(t *testing.T, s *state.State, b *book) {
	t.Helper()
	fields := names()
	for _, c := range b.classNames() {
		for _, at := range far() {
			s.Set(c, at)
		}
		if _, ok := b.at[c]; !ok {
			s.Set(c, running)
		}
		for _, f := range fields {
			v, ok := b.get(c, f)
			checkPut(t, s, c, f, frame.Val{Ref: !v.Ref, N: 77}, false)
			checkPut(t, s, c, f, frame.Val{Ref: !v.Ref}, false)
			checkPut(t, s, c, f, v, ok)
		}
	}
	n := len(b.refs())
	for k := range n + 4 {
		if k != n {
			s.SetRefs(slices.Repeat([]int{78}, k))
		}
	}
	for i := range n {
		for _, place := range tooFar() {
			list := slices.Repeat([]int{79}, n)
			list[i] = place
			s.SetRefs(list)
		}
	}
	s.SetRefs(make([]int, n+1<<16))
	checkState(t, s, b)
	s.SetRefs(s.Refs())
	checkState(t, s, b)
}

// numbers gives numbers in a row that looks like none.
type numbers struct{ x uint64 }

// below gives a number from 0 to n-1.
func (r *numbers) below(n int) int {
	r.x = r.x*6364136223846793005 + 1442695040888963407
	return int(r.x>>33) % n
}

func (r *numbers) val() frame.Val {
	// A shift of its own makes small numbers and great ones.
	return frame.Val{Ref: r.below(2) == 0, N: int32(r.below(1<<31)*2+r.below(2)) >> r.below(32)}
}

// places gives so many places, one in three -1.
func (r *numbers) places(n int) []int {
	list := make([]int, n)
	for i := range list {
		list[i] = r.below(1<<31-1) >> r.below(31)
		if r.below(3) == 0 {
			list[i] = -1
		}
	}
	return list
}

func pick[T any](r *numbers, list []T) T { return list[r.below(len(list))] }

// classAt gives a name that may be, another one for each number.
func classAt(i int) string { return "C" + strconv.Itoa(i) }

// classes makes a set in which each class is below one that stands ahead of it, or a given one, or an interface; then it turns the set.
func (r *numbers) classes() []api.Class {
	types := []string{"I", "I", "Object", "[I", "[[C0", "C0", "MathErr", "Zz"}
	var list []api.Class
	supers := []string{"Object", "MathErr", "Thrown"}
	for i := range r.below(api.MaxClasses + 1) {
		if r.below(5) == 0 {
			list = append(list, face(classAt(i)))
			continue
		}
		c := cl(classAt(i), pick(r, supers[max(len(supers)-3, 0):]))
		for _, f := range names()[:r.below(api.MaxFields+1)] {
			c.Fields = append(c.Fields, api.Field{Name: f, Type: pick(r, types), Static: r.below(3) > 0})
		}
		list, supers = append(list, c), append(supers, c.Name)
	}
	for i := range list {
		k := r.below(i + 1)
		list[i], list[k] = list[k], list[i]
	}
	return list
}
