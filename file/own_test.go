package file_test

import (
	"bytes"
	"cmp"
	"fmt"
	"reflect"
	"slices"
	"strings"
	"testing"

	"daguerre/api"
	"daguerre/class"
	"daguerre/file"
)

// walk goes through all that v is made of, lists and what is in them, and tells each with its way there.
func walk(v reflect.Value, way string, each func(way string, v reflect.Value)) {
	switch v.Kind() {
	case reflect.Struct:
		for i := range v.NumField() {
			walk(v.Field(i), way+"."+v.Type().Field(i).Name, each)
		}
	case reflect.Slice:
		each(way, v)
		for i := range v.Len() {
			walk(v.Index(i), fmt.Sprint(way, "[", i, "]"), each)
		}
	default:
		each(way, v)
	}
}

func walkClass(c *api.Class, each func(way string, v reflect.Value)) {
	walk(reflect.ValueOf(c).Elem(), "", each)
}

// inRoom gives v's elements with a full one in the spare room behind them.
func inRoom(v reflect.Value) reflect.Value {
	n := v.Len()
	list := reflect.MakeSlice(v.Type(), n+1, n+1)
	reflect.Copy(list, v)
	switch x := list.Index(n); x.Kind() {
	case reflect.String:
		x.SetString("Room")
	default:
		walk(x, "", func(_ string, part reflect.Value) {
			if part.Kind() == reflect.String {
				part.SetString("Room")
			}
		})
	}
	return list.Slice(0, n)
}

// roomy gives c with each list's spare room filled.
func roomy(c api.Class) api.Class {
	walkClass(&c, func(_ string, v reflect.Value) {
		if v.Kind() == reflect.Slice {
			v.Set(inRoom(v))
		}
	})
	return c
}

// told gives all that c is, its lists' spare room, too.
func told(c api.Class) string {
	var all strings.Builder
	walkClass(&c, func(way string, v reflect.Value) {
		if v.Kind() == reflect.Slice {
			fmt.Fprint(&all, way, v.Len(), v.Cap(), v.Slice(0, v.Cap()).Interface(), "\n")
		} else {
			fmt.Fprint(&all, way, v.Interface(), "\n")
		}
	})
	return all.String()
}

// scribble writes into each list of c, as far as its room goes, from the inner ones on.
func scribble(c *api.Class) {
	var lists []reflect.Value
	walkClass(c, func(_ string, v reflect.Value) {
		if v.Kind() == reflect.Slice {
			lists = append(lists, v)
		}
	})
	for i := len(lists) - 1; i >= 0; i-- {
		list := lists[i].Slice(0, lists[i].Cap())
		for k := range list.Len() {
			walk(list.Index(k), "", func(_ string, v reflect.Value) {
				switch v.Kind() {
				case reflect.String:
					v.SetString("Turned")
				case reflect.Int:
					v.SetInt(77)
				case reflect.Bool:
					v.SetBool(!v.Bool())
				}
			})
		}
	}
}

func scribbleBytes(b []byte) {
	b = b[:cap(b)]
	for i := range b {
		b[i] ^= 0x5a
	}
}

func TestEncodeLeavesItsArgument(t *testing.T) {
	for what, c := range classes(t) {
		want := sheetOf(c).bytes()
		c = roomy(c)
		before := told(c)
		if got := file.Encode(c); !bytes.Equal(got, want) {
			t.Errorf("%s: with room: % .80x; want % .80x", what, got, want)
		}
		if told(c) != before {
			t.Errorf("%s: Encode changed its argument", what)
		}
	}
}

func TestDecodeLeavesItsArgument(t *testing.T) {
	for what, c := range classes(t) {
		for _, b := range [][]byte{sheetOf(c).bytes(), append(sheetOf(c).bytes(), 1), []byte("JAVA"), {}} {
			room := append(bytes.Clone(b), "the room behind the bytes"...)
			before := bytes.Clone(room)
			got, err := file.Decode(room[:len(b)])
			alone, errAlone := file.Decode(bytes.Clone(b))
			if !bytes.Equal(room, before) {
				t.Errorf("%s: Decode changed its argument", what)
			}
			if err != errAlone || !class.Eq(got, alone) {
				t.Errorf("%s: Decode hangs on the spare room", what)
			}
		}
	}
}

// Turning what was read leaves the bytes, and what is read again, as they were.
func TestClassIsItsOwn(t *testing.T) {
	for what, c := range classes(t) {
		want := sheetOf(c).bytes()
		b := bytes.Clone(want)
		first, _ := file.Decode(b)
		second, _ := file.Decode(b)
		before := told(second)
		scribble(&first)
		if !bytes.Equal(b, want) {
			t.Errorf("%s: turning the class turned the bytes", what)
		}
		if told(second) != before || !class.Eq(second, c) {
			t.Errorf("%s: turning one class turned another", what)
		}
		if third, err := file.Decode(b); err != api.OK || !class.Eq(third, c) {
			t.Errorf("%s: read again it is another", what)
		}
		scribbleBytes(b)
		if told(second) != before || !class.Eq(second, c) {
			t.Errorf("%s: turning the bytes turned the class", what)
		}
	}
}

// No two lists of one class share memory, their spare room neither.
func TestListsAreTheirOwn(t *testing.T) {
	type room struct {
		way      string
		from, to uintptr
	}
	for what, c := range classes(t) {
		got, _ := file.Decode(sheetOf(c).bytes())
		var rooms []room
		walkClass(&got, func(way string, v reflect.Value) {
			if v.Kind() == reflect.Slice && v.Cap() > 0 {
				rooms = append(rooms, room{way, v.Pointer(), v.Pointer() + uintptr(v.Cap())*v.Type().Elem().Size()})
			}
		})
		slices.SortFunc(rooms, func(a, b room) int { return cmp.Compare(a.from, b.from) })
		for i := 1; i < len(rooms); i++ {
			if rooms[i].from < rooms[i-1].to {
				t.Errorf("%s: %s and %s share memory", what, rooms[i-1].way, rooms[i].way)
			}
		}
	}
}

// Turning what was written leaves the class, and what is written again, as they were; and the other way about.
func TestBytesAreTheirOwn(t *testing.T) {
	for what, c := range classes(t) {
		want := sheetOf(c).bytes()
		before := told(c)
		first, second := file.Encode(c), file.Encode(c)
		scribbleBytes(first)
		if told(c) != before {
			t.Errorf("%s: turning the bytes turned the class", what)
		}
		if !bytes.Equal(second, want) || !bytes.Equal(file.Encode(c), want) {
			t.Errorf("%s: turning one's bytes turned another's", what)
		}
		scribble(&c)
		if !bytes.Equal(second, want) {
			t.Errorf("%s: turning the class turned the bytes", what)
		}
	}
}

// What was asked before is not seen in a later answer.
func TestNothingIsKept(t *testing.T) {
	all := classes(t)
	all["none"] = api.Class{}
	all["too long"] = sized(t, 6001)
	ask := func(c api.Class) string {
		b := file.Encode(c)
		d, err := file.Decode(b)
		e, errWhole := file.Decode(sheetOf(c).bytes())
		return fmt.Sprint(b, told(d), err, told(e), errWhole)
	}
	first := map[string]string{}
	for what, c := range all {
		first[what] = ask(c)
	}
	for range 3 {
		for what, c := range all {
			if ask(c) != first[what] {
				t.Errorf("%s: another answer", what)
			}
		}
	}
}

// others gives values that v does not have now, such as may be and such as may not.
func others(v reflect.Value) []reflect.Value {
	var list []reflect.Value
	switch v.Kind() {
	case reflect.Bool:
		list = append(list, reflect.ValueOf(!v.Bool()))
	case reflect.Int:
		for _, n := range []int{0, 1, 2, 3, 16, 46, 61, 62, 99, 100, -1, 1 << 31, 1 << 32, -1 << 63, 1<<63 - 1, int(v.Int()) + 1, int(v.Int()) - 1} {
			list = append(list, reflect.ValueOf(n))
		}
	case reflect.String:
		for _, s := range []string{"", "I", "V", "N", "T", "Ab", "Xy", "Object", "Other", "[I", "[[Ab", "[[[I", "f", "next", "zz", "$init", "\xff", "Abcdefghi", strings.Repeat("x", 70)} {
			list = append(list, reflect.ValueOf(s))
		}
	case reflect.Slice:
		n := v.Len()
		list = append(list, reflect.Zero(v.Type()), inRoom(v).Slice(0, n+1))
		if n > 0 {
			list = append(list, v.Slice(0, n-1), v.Slice(1, n), reflect.AppendSlice(v.Slice3(0, n, n), v))
		}
	}
	return list
}

// Each part of a class becomes others: what may be is written and read, what may not is neither.
func TestEachPartOfAClassAnother(t *testing.T) {
	for _, of := range []func() api.Class{whole, face, func() api.Class { return api.Class{Name: "Ab", Super: "Object"} }} {
		c := of()
		may, mayNot := 0, 0
		walkClass(&c, func(way string, v reflect.Value) {
			before := reflect.New(v.Type()).Elem()
			before.Set(v)
			for _, other := range others(v) {
				v.Set(other)
				checkBoth(t, fmt.Sprint(way, " ", other), c)
				if class.May(c) {
					may++
				} else {
					mayNot++
				}
			}
			v.Set(before)
		})
		checkBoth(t, "as it was", c)
		if may < 10 || mayNot < 20 {
			t.Errorf("only %d that may be and %d that may not were tried", may, mayNot)
		}
	}
}
