package class_test

import (
	"fmt"
	"reflect"
	"strings"
	"testing"

	"daguerre/api"
	"daguerre/class"
)

func checkEq(t *testing.T, what string, a, b api.Class, want bool) {
	t.Helper()
	if class.Eq(a, b) != want || class.Eq(b, a) != want {
		t.Errorf("%s: Eq = %v, %v; want %v", what, class.Eq(a, b), class.Eq(b, a), want)
	}
}

// parts goes through all that v is made of, lists and what is in them, and tells each with its way there.
func parts(v reflect.Value, way string, each func(way string, v reflect.Value)) {
	switch v.Kind() {
	case reflect.Struct:
		for i := range v.NumField() {
			parts(v.Field(i), way+"."+v.Type().Field(i).Name, each)
		}
	case reflect.Slice:
		each(way, v)
		for i := range v.Len() {
			parts(v.Index(i), fmt.Sprint(way, "[", i, "]"), each)
		}
	default:
		each(way, v)
	}
}

func partsOf(c *api.Class, each func(way string, v reflect.Value)) {
	parts(reflect.ValueOf(c).Elem(), "", each)
}

// others gives values that v does not have now.
func others(v reflect.Value) []reflect.Value {
	var list []reflect.Value
	switch v.Kind() {
	case reflect.Bool:
		list = append(list, reflect.ValueOf(!v.Bool()))
	case reflect.Int:
		for _, n := range []int64{v.Int() + 1, v.Int() - 1, -v.Int() - 1, v.Int() + 1<<32, v.Int() ^ -1<<63} {
			list = append(list, reflect.ValueOf(int(n)))
		}
	case reflect.String:
		for _, s := range []string{v.String() + "x", v.String() + "\x00", "x" + v.String(), strings.ToUpper(v.String()) + "X"} {
			list = append(list, reflect.ValueOf(s))
		}
		if v.String() != "" {
			list = append(list, reflect.ValueOf(""), reflect.ValueOf(v.String()[1:]))
		}
	case reflect.Slice:
		list = append(list, longer(v))
		if v.Len() > 0 {
			list = append(list, v.Slice(0, v.Len()-1), v.Slice(1, v.Len()), reflect.Zero(v.Type()))
		}
	}
	return list
}

// longer gives v's elements and a zero one behind them.
func longer(v reflect.Value) reflect.Value {
	list := reflect.MakeSlice(v.Type(), v.Len()+1, v.Len()+1)
	reflect.Copy(list, v)
	return list
}

// full gives a class in which no part is zero, each list has two elements, and two that stand beside each other are unlike.
func full() api.Class {
	c := whole()
	c.Interface = true
	c.Fields = []api.Field{{Name: "a", Type: "I", Static: true}, {Name: "b", Type: "Ab"}}
	c.Methods = []api.Method{step(), step()}
	for i := range c.Methods {
		m := &c.Methods[i]
		m.Name = memberName(i)
		m.Static, m.Abstract = i == 0, i == 1
		m.Params = []string{"I", "Ab"}
		m.Maps[1].Stack = []string{"N", "I"}
		m.Code = []api.Ins{{Op: 1, A: 2, C: "Ab", M: "f"}, {Op: 3, A: 4, C: "Cd", M: "g"}}
		m.Traps[1].C = "Cd"
	}
	return c
}

// Two classes that part in one part alone are never the same, whichever part it is.
func TestEqPartByPart(t *testing.T) {
	for _, of := range []func() api.Class{whole, full, func() api.Class { return face(abstract("f")) }, func() api.Class { return api.Class{} }} {
		a, b := of(), of()
		checkEq(t, "two that are alike", a, b, true)
		count := 0
		partsOf(&b, func(way string, v reflect.Value) {
			before := reflect.New(v.Type()).Elem()
			before.Set(v)
			for _, other := range others(v) {
				v.Set(other)
				checkEq(t, way+" another", a, b, false)
				v.Set(before)
				count++
			}
		})
		checkEq(t, "two that are alike again", a, b, true)
		if count < 10 {
			t.Errorf("only %d changes were tried", count)
		}
	}
}

// The walk above reaches each field that api's types have.
func TestEqReachesAll(t *testing.T) {
	c := full()
	seen := map[string]bool{}
	partsOf(&c, func(way string, v reflect.Value) {
		seen[strings.NewReplacer("[0]", "", "[1]", "").Replace(way)] = true
	})
	for _, way := range []string{
		".Name", ".Super", ".Interface", ".Impl", ".Fields", ".Fields.Name", ".Fields.Type", ".Fields.Static",
		".Methods", ".Methods.Name", ".Methods.Params", ".Methods.Ret", ".Methods.Static", ".Methods.Abstract", ".Methods.Locals", ".Methods.Stack",
		".Methods.Code", ".Methods.Code.Op", ".Methods.Code.A", ".Methods.Code.C", ".Methods.Code.M",
		".Methods.Maps", ".Methods.Maps.At", ".Methods.Maps.Locals", ".Methods.Maps.Stack",
		".Methods.Traps", ".Methods.Traps.From", ".Methods.Traps.To", ".Methods.Traps.At", ".Methods.Traps.C",
	} {
		if !seen[way] {
			t.Errorf("%s is not reached", way)
		}
		delete(seen, way)
	}
	if len(seen) > 0 {
		t.Errorf("reached, too: %v", seen)
	}
}

// The elements of a list stand in an order.
func TestEqOfAnotherOrder(t *testing.T) {
	a := full()
	b := full()
	partsOf(&b, func(way string, v reflect.Value) {
		if v.Kind() != reflect.Slice {
			return
		}
		swap := reflect.Swapper(v.Interface())
		swap(0, 1)
		checkEq(t, way+" swapped", a, b, false)
		swap(0, 1)
	})
	checkEq(t, "swapped back", a, b, true)
}

func TestEqOfNilAndEmpty(t *testing.T) {
	for _, of := range []func() api.Class{full, whole, func() api.Class { return api.Class{} }, func() api.Class { return with(api.Method{Maps: make([]api.Map, 1)}) }} {
		count := 0
		b := of()
		partsOf(&b, func(way string, v reflect.Value) {
			if v.Kind() != reflect.Slice {
				return
			}
			count++
			before := reflect.New(v.Type()).Elem()
			before.Set(v)
			v.Set(reflect.Zero(v.Type()))
			c := clone(b)
			v.Set(reflect.MakeSlice(v.Type(), 0, 0))
			checkEq(t, way+" nil and empty", b, c, true)
			v.Set(longer(reflect.Zero(v.Type())).Slice(0, 0))
			checkEq(t, way+" nil and empty with spare room", b, c, true)
			if class.May(b) != class.May(c) {
				t.Errorf("%s: May of nil and of empty part", way)
			}
			v.Set(before)
		})
		if count < 3 {
			t.Errorf("only %d lists were tried", count)
		}
	}
}

// Eq asks not whether they may be.
func TestEqOfWhatMayNotBe(t *testing.T) {
	for what, of := range map[string]func() api.Class{
		"zero":         func() api.Class { return api.Class{} },
		"zero methods": func() api.Class { return with(make([]api.Method, 20)...) },
		"bad names":    func() api.Class { return api.Class{Name: "\x00", Super: strings.Repeat("x", 5000)} },
		"bad bytes":    func() api.Class { return api.Class{Name: "\xff", Impl: []string{"\xfe", ""}} },
		"long lists":   func() api.Class { return with(runs("f", 70000)) },
	} {
		checkMay(t, what, of(), false)
		checkEq(t, what, of(), of(), true)
		checkEq(t, what+" and whole", of(), whole(), false)
	}
	checkEq(t, "bytes that are no letters", api.Class{Name: "\xff"}, api.Class{Name: "\xfe"}, false)
	checkEq(t, "bytes that are no letters and the sign for them", api.Class{Name: "\xff"}, api.Class{Name: "\ufffd"}, false)
}

func TestEqOfEachPair(t *testing.T) {
	list := []api.Class{{}, {Interface: true}, {Name: "Ab"}, {Super: "Ab"}, {Name: "Ab", Super: "Ab"}, {Impl: []string{""}}, {Impl: []string{"", ""}}, {Fields: make([]api.Field, 1)}, {Methods: make([]api.Method, 1)}, {Impl: []string{"ab", "c"}}, {Impl: []string{"a", "bc"}}, face(), with(), with(runs("f", 1)), with(runs("f", 2)), face(abstract("f")), whole(), full()}
	for i, a := range list {
		for j, b := range list {
			checkEq(t, fmt.Sprint(i, " and ", j), a, b, i == j)
		}
	}
}
