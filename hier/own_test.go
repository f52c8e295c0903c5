package hier_test

import (
	"cmp"
	"fmt"
	"reflect"
	"runtime"
	"slices"
	"strings"
	"testing"

	"daguerre/api"
	"daguerre/hier"
)

// walk goes through all that v is made of, lists and what is in them, and tells each with its way there.
func walk(v reflect.Value, way string, each func(way string, v reflect.Value)) {
	switch v.Kind() {
	case reflect.Struct:
		for i := range v.NumField() {
			walk(v.Field(i), way+"."+v.Type().Field(i).Name, each)
		}
	case reflect.Slice:
		each(way, v)
		for i := range v.Len() {
			walk(v.Index(i), fmt.Sprint(way, "[", i, "]"), each)
		}
	default:
		each(way, v)
	}
}

func walkAll(x any, each func(way string, v reflect.Value)) {
	walk(reflect.ValueOf(x).Elem(), "", each)
}

// inRoom gives v's elements with a full one in the spare room behind them.
func inRoom(v reflect.Value) reflect.Value {
	n := v.Len()
	list := reflect.MakeSlice(v.Type(), n+1, n+1)
	reflect.Copy(list, v)
	walk(list.Index(n), "", func(_ string, part reflect.Value) {
		if part.Kind() == reflect.String {
			part.SetString("Room")
		}
	})
	return list.Slice(0, n)
}

// roomy gives l with the spare room of each list filled, its own, too.
func roomy(l []api.Class) []api.Class {
	walkAll(&l, func(_ string, v reflect.Value) {
		if v.Kind() == reflect.Slice {
			v.Set(inRoom(v))
		}
	})
	return l
}

// told gives all that x points to, the lists' spare room, too.
func told(x any) string {
	var all strings.Builder
	walkAll(x, func(way string, v reflect.Value) {
		if v.Kind() == reflect.Slice {
			fmt.Fprint(&all, way, v.IsNil(), v.Len(), v.Cap(), v.Slice(0, v.Cap()).Interface(), "\n")
		} else {
			fmt.Fprint(&all, way, v.Interface(), "\n")
		}
	})
	return all.String()
}

// scribble writes into each list that x points to, as far as its room goes, from the inner ones on.
func scribble(x any) {
	var lists []reflect.Value
	walkAll(x, func(_ string, v reflect.Value) {
		if v.Kind() == reflect.Slice {
			lists = append(lists, v)
		}
	})
	for i := len(lists) - 1; i >= 0; i-- {
		list := lists[i].Slice(0, lists[i].Cap())
		for k := range list.Len() {
			walk(list.Index(k), "", turn)
		}
	}
}

func turn(_ string, v reflect.Value) {
	switch v.Kind() {
	case reflect.String:
		v.SetString("Turned")
	case reflect.Int:
		v.SetInt(77)
	case reflect.Bool:
		v.SetBool(!v.Bool())
	}
}

// all gives what h says of everything.
func all(h *hier.Hier) string {
	var s strings.Builder
	names := h.Names()
	fmt.Fprintln(&s, hier.Given(), names)
	for _, name := range append(names, "Zz", "", "Turned", "Room") {
		c, ok := h.Class(name)
		fmt.Fprintln(&s, name, c, ok, h.Supers(name), h.Faces(name))
		for _, other := range names {
			fmt.Fprint(&s, h.Sub(name, other), h.Sub("["+name, "["+other), " ")
		}
	}
	return s.String()
}

// wholes gives sets that New takes, and wrongs such as it does not.
func wholes() []func() []api.Class {
	return []func() []api.Class{
		world,
		func() []api.Class { return []api.Class{} },
		func() []api.Class { return great()["both"] },
		func() []api.Class {
			return []api.Class{{Name: "Aa", Super: "Object", Impl: []string{}, Fields: []api.Field{}, Methods: []api.Method{}}}
		},
	}
}

func wrongs() []func() []api.Class {
	list := []func() []api.Class{func() []api.Class { return make([]api.Class, 17) }}
	for i := range faults() {
		list = append(list, func() []api.Class { return append(world(), faults()[i].l...) })
	}
	return list
}

func TestNewLeavesItsArgument(t *testing.T) {
	for i, of := range append(wholes(), wrongs()...) {
		h, err := hier.New(of())
		l := roomy(of())
		before := told(&l)
		again, errAgain := hier.New(l)
		if told(&l) != before {
			t.Errorf("set %d: New changed its argument", i)
		}
		if errAgain != err || all(again) != all(h) {
			t.Errorf("set %d: New hangs on the spare room", i)
		}
		if told(&l) != before {
			t.Errorf("set %d: asking the Hier changed New's argument", i)
		}
	}
}

// Turning what was handed in, its spare room too, is not seen.
func TestNewKeepsNoArgument(t *testing.T) {
	for i, of := range wholes() {
		l := roomy(of())
		h := mustNew(t, l)
		before := all(h)
		scribble(&l)
		for k := range l {
			l[k] = cl("Zz", "Zz")
		}
		if all(h) != before || all(h) != all(mustNew(t, of())) {
			t.Errorf("set %d: turning the classes turned the Hier", i)
		}
	}
}

// Each list of world is turned alone, so that what hides one list hides not the next.
func TestNewKeepsNoListOfItsArgument(t *testing.T) {
	want := all(mustNew(t, world()))
	count := 0
	l := world()
	walkAll(&l, func(way string, v reflect.Value) {
		if v.Kind() != reflect.Slice || v.Len() == 0 {
			return
		}
		count++
		h := mustNew(t, l)
		before := reflect.MakeSlice(v.Type(), v.Len(), v.Len())
		reflect.Copy(before, v)
		for k := range v.Len() {
			v.Index(k).SetZero()
		}
		if all(h) != want {
			t.Errorf("New keeps %s", way)
		}
		reflect.Copy(v, before)
	})
	if count < 20 {
		t.Errorf("only %d lists were turned", count)
	}
}

func TestAnswersAreTheirOwn(t *testing.T) {
	for i, of := range wholes() {
		h, other := mustNew(t, of()), mustNew(t, of())
		before := all(h)
		for _, name := range append(h.Names(), "Zz") {
			c, _ := h.Class(name)
			d, _ := h.Class(name)
			names, supers, faces, given := h.Names(), h.Supers(name), h.Faces(name), hier.Given()
			held := told(&d)
			scribble(&c)
			if told(&d) != held {
				t.Errorf("set %d: turning Class(%q) turned another answer", i, name)
			}
			for _, list := range []*[]string{&names, &supers, &faces, &given} {
				scribble(list)
			}
			if all(h) != before || all(other) != before {
				t.Errorf("set %d: turning what was answered of %q turned the Hier", i, name)
			}
		}
		if all(mustNew(t, of())) != before {
			t.Errorf("set %d: turning what was answered turned New", i)
		}
	}
}

// Each list of each class that is answered is turned alone.
func TestListsOfAClassAreTheirOwn(t *testing.T) {
	h := mustNew(t, world())
	want := all(h)
	count := 0
	for _, name := range h.Names() {
		c, _ := h.Class(name)
		walkAll(&c, func(way string, v reflect.Value) {
			if v.Kind() != reflect.Slice || v.Len() == 0 {
				return
			}
			count++
			for k := range v.Len() {
				walk(v.Index(k), "", turn)
			}
			if all(h) != want {
				t.Errorf("%s%s is the Hier's", name, way)
			}
		})
	}
	if count < 20 {
		t.Errorf("only %d lists were turned", count)
	}
}

// room is a list's memory, its spare room too.
type room struct {
	way      string
	from, to uintptr
}

func rooms(what string, x any) []room {
	var list []room
	walkAll(x, func(way string, v reflect.Value) {
		if v.Kind() == reflect.Slice && v.Cap() > 0 {
			list = append(list, room{what + way, v.Pointer(), v.Pointer() + uintptr(v.Cap())*v.Type().Elem().Size()})
		}
	})
	return list
}

// No two lists share memory: of one answer, of two, of an answer and of what was handed in.
func TestNoTwoListsShareMemory(t *testing.T) {
	type answer struct {
		names, supers, faces, given []string
		c                           api.Class
	}
	for i, of := range wholes() {
		l := roomy(of()) // so that the lists without elements have memory, too
		h := mustNew(t, l)
		list := rooms("l", &l)
		var kept []*answer
		for range 2 {
			for _, name := range h.Names() {
				a := &answer{names: h.Names(), supers: h.Supers(name), faces: h.Faces(name), given: hier.Given()}
				a.c, _ = h.Class(name)
				kept = append(kept, a)
				for part, x := range map[string]any{"names": &a.names, "supers": &a.supers, "faces": &a.faces, "given": &a.given, "class": &a.c} {
					list = append(list, rooms(fmt.Sprint(name, len(kept), part), x)...)
				}
			}
		}
		slices.SortFunc(list, func(a, b room) int { return cmp.Compare(a.from, b.from) })
		for k := 1; k < len(list); k++ {
			if list[k].from < list[k-1].to {
				t.Errorf("set %d: %s and %s share memory", i, list[k-1].way, list[k].way)
			}
		}
		// While the lists are held their memory is given to nothing else.
		runtime.KeepAlive(l)
		runtime.KeepAlive(kept)
	}
}

// What was asked or made before is not seen in a later answer.
func TestNothingIsKept(t *testing.T) {
	var hiers []*hier.Hier
	var first []string
	for _, of := range wholes() {
		h := mustNew(t, of())
		hiers = append(hiers, h)
		first = append(first, all(h))
	}
	for range 3 {
		for i := len(hiers) - 1; i >= 0; i-- {
			for _, of := range wrongs() {
				hier.New(of())
			}
			if all(hiers[i]) != first[i] || all(mustNew(t, wholes()[i]())) != first[i] {
				t.Errorf("set %d: another answer", i)
			}
		}
	}
}
