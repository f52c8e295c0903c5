package class_test

import (
	"fmt"
	"reflect"
	"strings"
	"testing"

	"daguerre/api"
	"daguerre/class"
)

func checkPlaces(t *testing.T, c api.Class, name string, method, field int) {
	t.Helper()
	if m, f := class.Method(c, name), class.Field(c, name); m != method || f != field {
		t.Errorf("%.20q: Method %d, Field %d; want %d, %d", name, m, f, method, field)
	}
}

func TestPlaces(t *testing.T) {
	c := whole()
	checkPlaces(t, c, "step", 0, -1)
	checkPlaces(t, c, "$init", 1, -1)
	checkPlaces(t, c, "main", 2, -1)
	checkPlaces(t, c, "next", -1, 0)
	checkPlaces(t, c, "all", -1, 1)
	checkPlaces(t, c, "count", -1, 2)
	for _, name := range []string{"", "Ab", "Xy", "Face", "Other", "ste", "steps", "Step", "STEP", "step ", " step", "step\x00", "init", "$ini", "nex", "I", "V", "[[Ab", "f", "\xff", strings.Repeat("step", 5000)} {
		checkPlaces(t, c, name, -1, -1)
	}
}

func TestEachPlace(t *testing.T) {
	for n := range 9 {
		c := with(many(n, func(i int) api.Method { return runs(memberName(i), 1) })...)
		c.Fields = many(n, func(i int) api.Field { return api.Field{Name: memberName(n - 1 - i), Type: "I"} })
		for i := range n {
			checkPlaces(t, c, memberName(i), i, n-1-i)
		}
		checkPlaces(t, c, memberName(n), -1, -1)
		checkPlaces(t, c, "", -1, -1)
	}
	f := face(abstract("f"), abstract("g"))
	checkPlaces(t, f, "f", 0, -1)
	checkPlaces(t, f, "g", 1, -1)
}

// A field and a method of one name have each their own place.
func TestPlacesOfOneNameInBoth(t *testing.T) {
	c := with(runs("x", 1), runs("y", 1), runs("z", 1))
	c.Fields = []api.Field{{Name: "z", Type: "I"}, {Name: "w", Type: "I"}, {Name: "x", Type: "I"}}
	checkPlaces(t, c, "x", 0, 2)
	checkPlaces(t, c, "y", 1, -1)
	checkPlaces(t, c, "z", 2, 0)
	checkPlaces(t, c, "w", -1, 1)
}

// Of two of one name the first one is told, though such a class may not be.
func TestFirstOfTwo(t *testing.T) {
	for i := range 6 {
		for j := range i {
			c := with(many(6, func(i int) api.Method { return runs(memberName(i), 1) })...)
			c.Fields = many(6, func(i int) api.Field { return api.Field{Name: memberName(i), Type: "I"} })
			c.Methods[i].Name, c.Methods[j].Name = "x", "x"
			c.Fields[i].Name, c.Fields[j].Name = "y", "y"
			checkPlaces(t, c, "x", j, -1)
			checkPlaces(t, c, "y", -1, j)
		}
	}
}

// A name is held against names as it is, whether it may be or not.
func TestPlacesOfWhatMayNotBe(t *testing.T) {
	checkPlaces(t, api.Class{}, "", -1, -1)
	checkPlaces(t, api.Class{}, "f", -1, -1)
	checkPlaces(t, api.Class{Fields: []api.Field{}, Methods: []api.Method{}}, "f", -1, -1)
	long := strings.Repeat("x", 5000)
	c := with(api.Method{Name: "F"}, api.Method{}, api.Method{Name: "\xff"}, api.Method{Name: long})
	c.Fields = []api.Field{{Name: long}, {Name: "$init"}, {}, {Name: "\xff"}}
	checkPlaces(t, c, "F", 0, -1)
	checkPlaces(t, c, "", 1, 2)
	checkPlaces(t, c, "\xff", 2, 3)
	checkPlaces(t, c, "\ufffd", -1, -1)
	checkPlaces(t, c, long, 3, 0)
	checkPlaces(t, c, long[1:], -1, -1)
	checkPlaces(t, c, "$init", -1, 1)
	many := with(many(100_000, func(i int) api.Method { return api.Method{Name: memberName(i)} })...)
	checkPlaces(t, many, "m99999", 99_999, -1)
	checkPlaces(t, many, "m100000", -1, -1)
}

// clone gives c in memory of its own; nil stays nil, spare room goes along.
func clone(c api.Class) api.Class {
	return cloned(reflect.ValueOf(c)).Interface().(api.Class)
}

func cloned(v reflect.Value) reflect.Value {
	next := reflect.New(v.Type()).Elem()
	switch v.Kind() {
	case reflect.Struct:
		for i := range v.NumField() {
			next.Field(i).Set(cloned(v.Field(i)))
		}
	case reflect.Slice:
		if v.IsNil() {
			return next
		}
		all := reflect.MakeSlice(v.Type(), v.Cap(), v.Cap())
		for i := range v.Cap() {
			all.Index(i).Set(cloned(v.Slice(0, v.Cap()).Index(i)))
		}
		return all.Slice(0, v.Len())
	default:
		next.Set(v)
	}
	return next
}

// unfold gives each list its spare room as elements, so that it can be held against another.
func unfold(c api.Class) api.Class {
	c = clone(c)
	partsOf(&c, func(way string, v reflect.Value) {
		if v.Kind() == reflect.Slice {
			v.Set(v.Slice(0, v.Cap()))
		}
	})
	return c
}

// roomy gives c with each list one element shorter than its room.
func roomy(c api.Class) api.Class {
	c = clone(c)
	partsOf(&c, func(way string, v reflect.Value) {
		if v.Kind() == reflect.Slice {
			v.Set(longer(v).Slice(0, v.Len()))
		}
	})
	return c
}

func askAll(c, other api.Class) string {
	return fmt.Sprint(class.May(c), class.Eq(c, other), class.Eq(other, c), class.Method(c, "main"), class.Field(c, "count"), class.Method(c, "none"), class.Field(c, "none"))
}

// What is handed in is not changed, its spare room neither, and what stands in the room is not asked.
func TestArgumentsStay(t *testing.T) {
	for _, c := range []api.Class{whole(), full(), face(abstract("f")), {}, with(make([]api.Method, 3)...)} {
		want := askAll(c, whole())
		for _, one := range []api.Class{clone(c), roomy(c)} {
			other := roomy(whole())
			before, beforeOther := unfold(one), unfold(other)
			if got := askAll(one, other); got != want {
				t.Errorf("answered %s; want %s", got, want)
			}
			if !reflect.DeepEqual(unfold(one), before) || !reflect.DeepEqual(unfold(other), beforeOther) {
				t.Errorf("a call changed its argument")
			}
		}
	}
}

// What stands in a list's spare room is not of the class.
func TestSpareRoomIsNotAsked(t *testing.T) {
	c := whole()
	c.Methods, c.Fields, c.Impl = c.Methods[:2], c.Fields[:2], c.Impl[:1]
	checkMay(t, "short lists", c, true)
	checkPlaces(t, c, "main", -1, -1)
	checkPlaces(t, c, "count", -1, -1)
	checkEq(t, "shorter", c, whole(), false)
	c.Methods[0].Code = c.Methods[0].Code[:3]
	checkMay(t, "an end that stands in the room", c, false)
}

// What was asked before is not seen in a later answer.
func TestNothingIsKept(t *testing.T) {
	list := []api.Class{whole(), full(), {}, face(abstract("f")), with(runs("main", 1))}
	var first []string
	for _, a := range list {
		for _, b := range list {
			first = append(first, askAll(a, b))
		}
	}
	for i := len(first) - 1; i >= 0; i-- {
		if got := askAll(list[i/len(list)], list[i%len(list)]); got != first[i] {
			t.Errorf("%d: answered %s; want %s", i, got, first[i])
		}
	}
}

// One number that is far off is enough, whichever it is.
func TestEachNumberFarOff(t *testing.T) {
	for _, of := range []func() api.Class{whole, func() api.Class { return face(abstract("f"), abstract("g")) }} {
		c := of()
		partsOf(&c, func(way string, v reflect.Value) {
			if v.Kind() != reflect.Int {
				return
			}
			before := v.Int()
			for _, n := range far() {
				v.SetInt(int64(n))
				checkMay(t, fmt.Sprint(way, " ", n), c, false)
			}
			v.SetInt(before)
		})
		checkMay(t, "as it was", c, true)
	}
}

// Lists and texts far beyond their bounds are told at once: none of them is held against itself, one by one.
func TestLongLists(t *testing.T) {
	long := strings.Repeat("A", 1<<22)
	for what, c := range map[string]api.Class{
		"Name":    {Name: long, Super: "Xy"},
		"Super":   {Name: "Ab", Super: long},
		"Impl":    {Name: "Ab", Super: "Xy", Impl: many(300_000, className)},
		"Fields":  {Name: "Ab", Super: "Xy", Fields: many(300_000, func(i int) api.Field { return api.Field{Name: memberName(i), Type: "I"} })},
		"Methods": with(many(300_000, func(i int) api.Method { return api.Method{Name: memberName(i)} })...),
		"Params":  changed(func(m *api.Method) { m.Params = same(1<<20, "I") }),
		"Code":    with(runs("f", 1<<20)),
		"Traps":   changed(func(m *api.Method) { m.Traps = same(1<<20, api.Trap{To: 1}) }),
		"Maps":    changed(func(m *api.Method) { m.Maps = make([]api.Map, 1<<20) }),
		"Locals":  changed(func(m *api.Method) { m.Maps[0].Locals = same(1<<20, "I") }),
		"Stack":   changed(func(m *api.Method) { m.Maps[1].Stack = same(1<<20, "I") }),
		"a type":  changed(func(m *api.Method) { m.Maps[1].Stack[0] = long }),
	} {
		checkMay(t, "long "+what, c, false)
		checkEq(t, "long "+what, c, whole(), false)
		checkEq(t, "long "+what, c, c, true)
	}
}
