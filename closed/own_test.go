package closed_test

import (
	"fmt"
	"reflect"
	"slices"
	"strings"
	"testing"

	"daguerre/api"
	"daguerre/closed"
	"daguerre/hier"
)

// walk goes through all that v is made of, lists and what is in them, and tells each with its way there.
func walk(v reflect.Value, way string, each func(way string, v reflect.Value)) {
	switch v.Kind() {
	case reflect.Struct:
		for i := range v.NumField() {
			walk(v.Field(i), way+"."+v.Type().Field(i).Name, each)
		}
	case reflect.Slice:
		each(way, v)
		for i := range v.Len() {
			walk(v.Index(i), fmt.Sprint(way, "[", i, "]"), each)
		}
	default:
		each(way, v)
	}
}

func walkAll(x any, each func(way string, v reflect.Value)) {
	walk(reflect.ValueOf(x).Elem(), "", each)
}

// inRoom gives v's elements with a full one in the spare room behind them.
func inRoom(v reflect.Value) reflect.Value {
	n := v.Len()
	list := reflect.MakeSlice(v.Type(), n+1, n+1)
	reflect.Copy(list, v)
	walk(list.Index(n), "", func(_ string, part reflect.Value) {
		if part.Kind() == reflect.String {
			part.SetString("Room")
		}
	})
	return list.Slice(0, n)
}

// roomy gives l with the spare room of each list filled, its own, too.
func roomy(l []api.Class) []api.Class {
	walkAll(&l, func(_ string, v reflect.Value) {
		if v.Kind() == reflect.Slice {
			v.Set(inRoom(v))
		}
	})
	return l
}

// shown gives all that x points to, the lists' spare room, too.
func shown(x any) string {
	var all strings.Builder
	walkAll(x, func(way string, v reflect.Value) {
		if v.Kind() == reflect.Slice {
			fmt.Fprint(&all, way, v.IsNil(), v.Len(), v.Cap(), v.Slice(0, v.Cap()).Interface(), "\n")
		} else {
			fmt.Fprint(&all, way, v.Interface(), "\n")
		}
	})
	return all.String()
}

// scribble writes into each list that x points to, as far as its room goes, from the inner ones on.
func scribble(x any) {
	var lists []reflect.Value
	walkAll(x, func(_ string, v reflect.Value) {
		if v.Kind() == reflect.Slice {
			lists = append(lists, v)
		}
	})
	for i := len(lists) - 1; i >= 0; i-- {
		list := lists[i].Slice(0, lists[i].Cap())
		for k := range list.Len() {
			walk(list.Index(k), "", turn)
		}
	}
}

func turn(_ string, v reflect.Value) {
	switch v.Kind() {
	case reflect.String:
		v.SetString("Turned")
	case reflect.Int:
		v.SetInt(77)
	case reflect.Bool:
		v.SetBool(!v.Bool())
	}
}

// rich gives world with a method that has Maps and Traps.
func rich() []api.Class { return trapped("Err", "") }

// sets gives a set for each answer of Check.
func sets() map[api.Errno]func() []api.Class {
	return map[api.Errno]func() []api.Class{
		api.OK:         rich,
		api.ErrLimit:   func() []api.Class { return append(append(rich(), rich()...), class("Xx Object")) },
		api.ErrForm:    func() []api.Class { return append(rich(), class("Xx Object Ff")) },
		api.ErrMissing: func() []api.Class { return append(rich(), class("Xx Object: f = gets Aa q; pop; ret")) },
		api.ErrVerify:  func() []api.Class { return trapped("Aa") },
	}
}

func TestCheckLeavesItsArgument(t *testing.T) {
	for want, of := range sets() {
		l := roomy(of())
		before := shown(&l)
		for range 2 {
			check(t, "roomy", l, main(), want)
			if shown(&l) != before {
				t.Errorf("%v: Check changed its argument", want)
			}
		}
	}
}

// Whoever turns what Check was handed, its spare room too, turns nothing of the Hier.
func TestCheckKeepsNoArgument(t *testing.T) {
	l := roomy(rich())
	h, err := closed.Check(l, main())
	if err != api.OK {
		t.Fatalf("Check = %v", err)
	}
	before := told(h)
	scribble(&l)
	for i := range l {
		l[i] = api.Class{Name: "Zz"}
	}
	if told(h) != before || closed.Linked(h) != api.OK {
		t.Error("turning the classes turned the Hier")
	}
	check(t, "the same again", rich(), main(), api.OK)
}

// Each answer is a Hier of its own; who turns the classes that it hands out turns nothing of it or of another.
func TestAnswersAreTheirOwn(t *testing.T) {
	l := rich()
	one, _ := closed.Check(l, main())
	two, _ := closed.Check(l, main())
	if one == nil || two == nil || one == two {
		t.Fatal("the answers are not two")
	}
	before := told(one)
	for _, name := range one.Names() {
		c, _ := one.Class(name)
		scribble(&c)
		lists := [][]string{one.Names(), one.Supers(name), one.Faces(name)}
		scribble(&lists)
	}
	if told(one) != before || told(two) != before || closed.Linked(one) != api.OK {
		t.Error("turning what was handed out turned a Hier")
	}
}

func TestLinkedChangesNothing(t *testing.T) {
	for want, of := range sets() {
		h, err := hier.New(of())
		if err != api.OK {
			continue
		}
		before, first := told(h), closed.Linked(h)
		for range 3 {
			if closed.Linked(h) != first || told(h) != before {
				t.Errorf("%v: Linked changed something", want)
			}
		}
	}
}

// Sets that are asked by turns, with other classes of the same names.
func TestNothingIsKeptOfAnotherSet(t *testing.T) {
	other := func() []api.Class {
		return set("Ee Aa Ff: static e | f > I", "Aa Object: f > I | static field n I", "face Ff: f > I")
	}
	for range 3 {
		for want, of := range sets() {
			check(t, "world", of(), main(), want)
			check(t, "other", other(), main(), api.ErrMissing)
			check(t, "other", other(), api.Entry{C: "Ee", M: "e"}, api.OK)
			check(t, "none", nil, main(), api.ErrMissing)
			if closed.Linked(nil) != api.OK {
				t.Error("Linked of no classes")
			}
		}
	}
}

// Empty lists are the same as nil ones.
func TestEmptyLists(t *testing.T) {
	for want, of := range sets() {
		full, bare := of(), of()
		walkAll(&full, func(_ string, v reflect.Value) {
			if v.Kind() == reflect.Slice && v.Len() == 0 {
				v.Set(reflect.MakeSlice(v.Type(), 0, 3))
			}
		})
		walkAll(&bare, func(_ string, v reflect.Value) {
			if v.Kind() == reflect.Slice && v.Len() == 0 {
				v.SetZero()
			}
		})
		check(t, "empty", full, main(), want)
		check(t, "nil", bare, main(), want)
	}
}

// Where the classes stand makes no difference.
func TestOrderOfTheClasses(t *testing.T) {
	for want, of := range sets() {
		l := of()
		for range l {
			l = append(slices.Clone(l[1:]), l[0])
			check(t, "going round", l, main(), want)
		}
		slices.Reverse(l)
		check(t, "turned round", l, main(), want)
	}
}
