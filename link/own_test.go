package link_test

import (
	"cmp"
	"fmt"
	"reflect"
	"runtime"
	"slices"
	"strings"
	"testing"

	"daguerre/api"
	"daguerre/hier"
	"daguerre/link"
)

// walk goes through all that v is made of, lists and what is in them, and tells each with its way there.
func walk(v reflect.Value, way string, each func(way string, v reflect.Value)) {
	switch v.Kind() {
	case reflect.Struct:
		for i := range v.NumField() {
			walk(v.Field(i), way+"."+v.Type().Field(i).Name, each)
		}
	case reflect.Slice:
		each(way, v)
		for i := range v.Len() {
			walk(v.Index(i), fmt.Sprint(way, "[", i, "]"), each)
		}
	default:
		each(way, v)
	}
}

func walkAll(x any, each func(way string, v reflect.Value)) {
	walk(reflect.ValueOf(x).Elem(), "", each)
}

// fillRoom gives each list that x points to spare room with a full element in it, so that lists without elements have memory, too.
func fillRoom(x any) {
	walkAll(x, func(_ string, v reflect.Value) {
		if v.Kind() != reflect.Slice {
			return
		}
		n := v.Len()
		list := reflect.MakeSlice(v.Type(), n+1, n+1)
		reflect.Copy(list, v)
		walk(list.Index(n), "", func(_ string, part reflect.Value) {
			if part.Kind() == reflect.String {
				part.SetString("Room")
			}
		})
		v.Set(list.Slice(0, n))
	})
}

// told gives all that x points to, the lists' spare room, too.
func told(x any) string {
	var all strings.Builder
	walkAll(x, func(way string, v reflect.Value) {
		if v.Kind() == reflect.Slice {
			fmt.Fprint(&all, way, v.IsNil(), v.Len(), v.Cap(), v.Slice(0, v.Cap()).Interface(), "\n")
		} else {
			fmt.Fprint(&all, way, v.Interface(), "\n")
		}
	})
	return all.String()
}

// scribble writes into each list that x points to, as far as its room goes, from the inner ones on.
func scribble(x any) {
	var lists []reflect.Value
	walkAll(x, func(_ string, v reflect.Value) {
		if v.Kind() == reflect.Slice {
			lists = append(lists, v)
		}
	})
	for i := len(lists) - 1; i >= 0; i-- {
		list := lists[i].Slice(0, lists[i].Cap())
		for k := range list.Len() {
			walk(list.Index(k), "", turn)
		}
	}
}

func turn(_ string, v reflect.Value) {
	switch v.Kind() {
	case reflect.String:
		v.SetString("Turned")
	case reflect.Int:
		v.SetInt(77)
	case reflect.Bool:
		v.SetBool(!v.Bool())
	}
}

// rich gives world with a method that has some of all, in an interface and in two classes, and spare room everywhere.
func rich() []api.Class {
	l := world()
	for i := range l {
		switch l[i].Name {
		case "Aa", "Ee":
			l[i] = with(l[i], step())
		case "Ff":
			l[i] = with(l[i], api.Method{Name: "step", Params: []string{"I", "Bb"}, Ret: "Cc", Abstract: true})
		}
	}
	fillRoom(&l)
	return l
}

func richNames() []string { return append(memberNames(world()), "Room", "Turned", "nobody") }

func richClasses() []string { return append(classNames(world()), "Room", "Turned", "Zz") }

// all gives what is found of everything.
func all(h *hier.Hier) string {
	var s strings.Builder
	for _, c := range richClasses() {
		for _, name := range richNames() {
			fmt.Fprintln(&s, c, name)
			fmt.Fprintln(&s, fmt.Sprint(link.Field(h, c, name)), fmt.Sprint(link.Method(h, c, name)))
			fmt.Fprintln(&s, fmt.Sprint(link.Face(h, c, name)), fmt.Sprint(link.Chosen(h, c, name)))
		}
	}
	return s.String()
}

// told of the Hier's classes as hier hands them out.
func classesOf(h *hier.Hier) string {
	var s strings.Builder
	for _, name := range h.Names() {
		c, ok := h.Class(name)
		fmt.Fprintln(&s, c, ok, h.Supers(name), h.Faces(name))
	}
	return s.String()
}

func TestFindingChangesNoHier(t *testing.T) {
	l := rich()
	before := told(&l)
	h := mustNew(t, l)
	classes := classesOf(h)
	first := all(h)
	for range 2 {
		if all(h) != first {
			t.Error("asked again: another answer")
		}
	}
	if classesOf(h) != classes {
		t.Error("finding changed the Hier")
	}
	if told(&l) != before {
		t.Error("finding changed the classes that New was handed")
	}
}

// Whoever turns the classes that New was handed, their spare room too, turns nothing that is found.
func TestNothingHangsOnWhatWasHandedIn(t *testing.T) {
	l := rich()
	h := mustNew(t, l)
	before := all(h)
	scribble(&l)
	if all(h) != before || all(mustNew(t, rich())) != before {
		t.Error("turning the classes turned what is found")
	}
}

// Each list of each answer is turned alone, its spare room too.
func TestAnswersAreTheirOwn(t *testing.T) {
	h, other := mustNew(t, rich()), mustNew(t, rich())
	want, classes := all(h), classesOf(h)
	count := 0
	for _, by := range []finder{byMethod(), byFace()} {
		for _, x := range []found{{"Dd", "step", "Cc"}, {"Cc", "step", "Cc"}, {"Bb", "step", "Aa"}, {"Ee", "step", "Ee"}, {"Dd", "f", "Bb"}, {"Ff", "step", "Ff"}, {"Yy", "step", "Ff"}, {"Yy", "m", "Hh"}, {"Zz", "f", ""}} {
			_, m, _ := by.find(h, x.c, x.name)
			_, held, _ := by.find(h, x.c, x.name)
			before := told(&held)
			walkAll(&m, func(way string, v reflect.Value) {
				if v.Kind() != reflect.Slice || v.Cap() == 0 {
					return
				}
				count++
				for k := range v.Cap() {
					walk(v.Slice(0, v.Cap()).Index(k), "", turn)
				}
				if told(&held) != before {
					t.Errorf("%s(%q, %q)%s is another answer's, too", by.name, x.c, x.name, way)
				}
				if all(h) != want || classesOf(h) != classes || all(other) != want {
					t.Errorf("%s(%q, %q)%s is the Hier's", by.name, x.c, x.name, way)
				}
			})
		}
	}
	if count < 30 {
		t.Errorf("only %d lists were turned", count)
	}
}

// room is a list's memory, its spare room too.
type room struct {
	way      string
	from, to uintptr
}

func rooms(what string, x any) []room {
	var list []room
	walkAll(x, func(way string, v reflect.Value) {
		if v.Kind() == reflect.Slice && v.Cap() > 0 {
			list = append(list, room{what + way, v.Pointer(), v.Pointer() + uintptr(v.Cap())*v.Type().Elem().Size()})
		}
	})
	return list
}

// No two lists share memory: of one answer, of two, of an answer and of what was handed in, or what hier answered.
func TestNoTwoListsShareMemory(t *testing.T) {
	l := rich()
	h := mustNew(t, l)
	list := rooms("l", &l)
	var kept []any
	keep := func(what string, x any) {
		kept = append(kept, x)
		list = append(list, rooms(what, x)...)
	}
	for round := range 2 {
		for _, c := range richClasses() {
			of, _ := h.Class(c)
			keep(fmt.Sprint("class ", round, c), &of)
			for _, name := range richNames() {
				for _, by := range []finder{byMethod(), byFace()} {
					_, m, _ := by.find(h, c, name)
					keep(fmt.Sprint(by.name, round, c, name), &m)
				}
			}
		}
	}
	slices.SortFunc(list, func(a, b room) int { return cmp.Compare(a.from, b.from) })
	for k := 1; k < len(list); k++ {
		if list[k].from < list[k-1].to {
			t.Errorf("%s and %s share memory", list[k-1].way, list[k].way)
		}
	}
	// While the lists are held their memory is given to nothing else.
	runtime.KeepAlive(l)
	runtime.KeepAlive(kept)
}

// What is found is a value: what was answered before stays as it was, whatever is asked or made later.
func TestAnswersStay(t *testing.T) {
	h := mustNew(t, rich())
	_, m, _ := link.Method(h, "Dd", "step")
	_, f, _ := link.Face(h, "Yy", "step")
	before := told(&m) + told(&f)
	all(h)
	all(mustNew(t, rich()))
	all(nil)
	if told(&m)+told(&f) != before {
		t.Error("an answer changed behind its holder's back")
	}
}

func TestAlikeLeavesItsArguments(t *testing.T) {
	for _, ret := range []string{"Cc", "V"} {
		for _, params := range [][]string{nil, {}, {"I", "Bb"}, {"I"}, {"Bb", "I"}} {
			a, b := step(), step()
			b.Ret, b.Params = ret, slices.Clone(params)
			want := link.Alike(a, b)
			fillRoom(&a)
			fillRoom(&b)
			before := told(&a) + told(&b)
			if link.Alike(a, b) != want || link.Alike(b, a) != want {
				t.Errorf("Alike hangs on the spare room, of %v, %v", params, ret)
			}
			if told(&a)+told(&b) != before {
				t.Errorf("Alike changed its arguments, of %v, %v", params, ret)
			}
		}
	}
}

// What was asked before is not seen in a later answer.
func TestAlikeKeepsNothing(t *testing.T) {
	a, b := step(), step()
	for range 3 {
		checkAlike(t, "the same", a, b, true)
		b.Params[0] = "Zz"
		checkAlike(t, "turned in place", a, b, false)
		a.Params[0] = "Zz"
		checkAlike(t, "both turned in place", a, b, true)
		a.Params[0], b.Params[0] = "I", "I"
	}
}

// Two Hiers that are asked by turns, with other classes of the same names.
func TestNothingIsKeptOfAnotherHier(t *testing.T) {
	one := mustNew(t, rich())
	two := mustNew(t, []api.Class{with(holding(cl("Dd", "Object"), api.Field{Name: "x", Type: "Dd"}), own("step", 1)), with(face("Yy"), abstract("step", 2))})
	first, second, third := all(one), all(two), all(nil)
	if first == second || second == third {
		t.Fatal("the sets are too much alike")
	}
	for range 2 {
		for _, x := range []struct {
			h    *hier.Hier
			want string
		}{{one, first}, {two, second}, {nil, third}, {two, second}, {one, first}} {
			if all(x.h) != x.want {
				t.Error("another answer")
			}
		}
	}
}
