package types_test

import (
	"fmt"
	"slices"
	"strings"
	"testing"

	"daguerre/api"
	"daguerre/hier"
	"daguerre/types"
)

// roomy gives the texts with spare room behind them that is full of another.
func roomy(room string, texts ...string) []string {
	n := len(texts)
	list := append(make([]string, 0, n+3), texts...)
	return append(list, room, room, room)[:n]
}

// told gives a list with its spare room.
func told(list []string) string {
	return fmt.Sprintf("%v %d %d %q", list == nil, len(list), cap(list), list[:cap(list)])
}

// classesOf gives the Hier's classes as hier hands them out.
func classesOf(h *hier.Hier) string {
	var s strings.Builder
	for _, name := range h.Names() {
		c, ok := h.Class(name)
		fmt.Fprintln(&s, c, ok, h.Supers(name), h.Faces(name))
	}
	return s.String()
}

func pool() []string {
	return append(arrays(slices.Concat([]string{"I", "N", "T", "V", "Zz", "Room", ""}, givenNames(), classNames(world())), 2), "[[[I")
}

// all gives all answers of all texts, one by one and in lists.
func all(h *hier.Hier) string {
	var s strings.Builder
	for _, x := range pool() {
		fmt.Fprintln(&s, x, types.There(h, x))
		for _, y := range pool() {
			a, b := []string{x, "I"}, []string{y, "T"}
			fmt.Fprintln(&s, types.Fits(h, x, y), types.All(h, a, b), types.Goes(h, api.Map{Locals: b, Stack: b[:1]}, a, a[:1]))
		}
	}
	return s.String()
}

func TestAskingChangesNoHier(t *testing.T) {
	l := world()
	before := fmt.Sprint(l)
	h := mustNew(t, l)
	classes, first := classesOf(h), all(h)
	for range 2 {
		if all(h) != first {
			t.Error("asked again: another answer")
		}
	}
	if classesOf(h) != classes || fmt.Sprint(l) != before {
		t.Error("asking changed the classes")
	}
}

// Whoever turns the classes that New was handed turns no answer.
func TestNothingHangsOnTheClassesHandedIn(t *testing.T) {
	l := world()
	for i := range l {
		l[i].Impl = roomy("Hh", l[i].Impl...)
	}
	h := mustNew(t, l)
	before := all(h)
	for i := range l {
		for k := range l[i].Impl[:cap(l[i].Impl)] {
			l[i].Impl[:cap(l[i].Impl)][k] = "Turned"
		}
		l[i] = api.Class{Name: "Turned", Interface: !l[i].Interface}
	}
	if all(h) != before || all(mustNew(t, world())) != before {
		t.Error("turning the classes turned the answers")
	}
}

// handed gives pairs of lists: they fit, they do not, they are too short or too long.
func handed() [][2][]string {
	return [][2][]string{
		{nil, nil}, {{}, {}}, {{"I"}, {"T"}}, {{"I"}, {"Aa"}}, {{"Bb", "N", "I"}, {"Aa", "Ee", "I"}}, {{"Aa", "N", "I"}, {"Bb", "Ee", "I"}},
		{{"Bb", "I", "I"}, {"Aa", "Ee", "I"}}, {{"Bb", "N", "I"}, {"Aa", "Ee", "Zz"}}, {{"I", "I"}, {"I"}}, {{"I"}, {"I", "I"}}, {nil, {"T"}}, {{"T"}, nil},
	}
}

// Neither the elements nor the spare room are written; and the spare room, whatever stands in it, is not read.
func TestListsAreLeftAlone(t *testing.T) {
	h := mustNew(t, world())
	for _, room := range []string{"T", "I", "Zz", ""} {
		for _, x := range handed() {
			want := types.All(h, x[0], x[1])
			a, b := roomy(room, x[0]...), roomy(room, x[1]...)
			before := told(a) + told(b)
			checkAll(t, h, a, b, want)
			if told(a)+told(b) != before {
				t.Errorf("All changed its lists, of %q", x)
			}
			for _, y := range handed() {
				m := api.Map{At: 7, Locals: b, Stack: roomy(room, y[1]...)}
				stack := roomy(room, y[0]...)
				before := told(a) + told(b) + told(stack) + told(m.Stack)
				checkGoes(t, h, m, a, stack, want && types.All(h, y[0], y[1]))
				if told(a)+told(b)+told(stack)+told(m.Stack) != before || m.At != 7 {
					t.Errorf("Goes changed its lists, of %q and %q", x, y)
				}
			}
		}
	}
}

// Lists that are the same memory, whole or in part, are lists like others.
func TestListsThatShareMemory(t *testing.T) {
	h := mustNew(t, world())
	list := []string{"Dd", "Bb", "Bb", "Aa", "T", "T"}
	checkAll(t, h, list, list, true)
	checkAll(t, h, list[:5], list[1:], true)
	checkAll(t, h, list[1:], list[:5], false)
	checkGoes(t, h, api.Map{Locals: list[1:4], Stack: list[2:4]}, list[:3], list[1:3], true)
	checkGoes(t, h, api.Map{Locals: list[:3], Stack: list[2:4]}, list[1:4], list[1:3], false)
	if !slices.Equal(list, []string{"Dd", "Bb", "Bb", "Aa", "T", "T"}) {
		t.Errorf("the list is now %q", list)
	}
}

// What was asked before is not seen in a later answer: the lists are turned in place between the calls.
func TestNoListIsKept(t *testing.T) {
	h := mustNew(t, world())
	a, b := []string{"Bb", "N", "I"}, []string{"Aa", "Ee", "I"}
	m := api.Map{Locals: b, Stack: []string{"Ff"}}
	stack := []string{"[I"}
	for range 3 {
		checkAll(t, h, a, b, true)
		checkGoes(t, h, m, a, stack, true)
		for at := range a {
			held := a[at]
			a[at] = "Zz"
			checkAll(t, h, a, b, false)
			checkGoes(t, h, m, a, stack, false)
			a[at] = held
			checkAll(t, h, a, b, true)
			held, b[at] = b[at], "Bb"
			checkAll(t, h, a, b, at != 2)
			checkGoes(t, h, m, a, stack, at != 2)
			b[at] = held
			checkGoes(t, h, m, a, stack, true)
		}
		stack[0] = "I"
		checkGoes(t, h, m, a, stack, false)
		m.Stack[0] = "I"
		checkGoes(t, h, m, a, stack, true)
		stack[0] = "Aa"
		checkGoes(t, h, m, a, stack, false)
		m.Stack[0] = "Ff"
		checkGoes(t, h, m, a, stack, true)
		stack[0] = "[I"
	}
}

// Hiers that are asked by turns, with other classes of the same names.
func TestNothingIsKeptOfAnotherHier(t *testing.T) {
	one := mustNew(t, world())
	two := mustNew(t, []api.Class{face("Bb"), cl("Ff", "Object"), face("Room")})
	three := mustNew(t, []api.Class{cl("Bb", "Object"), cl("Aa", "Bb"), cl("Ff", "Aa"), face("Ee")})
	first, second, third, last := all(one), all(two), all(three), all(nil)
	if first == second || second == third || third == first || third == last {
		t.Fatal("the sets are too much alike")
	}
	for range 2 {
		for _, x := range []struct {
			h    *hier.Hier
			want string
		}{{one, first}, {two, second}, {nil, last}, {three, third}, {two, second}, {one, first}} {
			if all(x.h) != x.want {
				t.Error("another answer")
			}
		}
	}
}
