package file_test

import (
	"bytes"
	"fmt"
	"math"
	"strings"
	"testing"

	"daguerre/api"
	"daguerre/class"
	"daguerre/file"
)

// Written out by hand: a number n is 2 n, or -2 n - 1 below 0.
const (
	wholeWritten = `4a 41 56 41
		18  04 41 62  04 58 79  04 49 66  08 6e 65 78 74  02 6e  04 5b 49  02 49  00  02 54  02 4e  0a 24 69 6e 69 74  02 56
		00 02 00
		04  02 04
		04  06 00 00  08 0a 02
		04
			08  04 0c 00  0c 00 00 08 04
			06  02 d7 04 0e 0e  4c 00 00 06  5e 00 0e 0e
			02  02  08 00 0c 00 10  02 12
			04  00 04 04 02  02 06 00 0e

			14  00  16 02 00 00 00
			02  5c 00 0e 0e
			00
			00`
	faceWritten = `4a 41 56 41
		0e  04 49 66  0c 4f 62 6a 65 63 74  04 41 62  02 66  02 49  02 67  02 56
		00 02 02
		02  04
		00
		04
			06  04 00 08  08 00 02 00 00  00 00 00
			0a  00        0c 00 02 00 00  00 00 00`
	twoWritten = `4a 41 56 41  04 04 41 62 04 58 79  00 02 00 00 00 00`
	oneWritten = `4a 41 56 41  02 04 41 62  00 00 00 02 00 00 00`
)

func TestWritten(t *testing.T) {
	for what, c := range map[string]struct {
		c    api.Class
		want string
	}{
		"whole":     {whole(), wholeWritten},
		"face":      {face(), faceWritten},
		"two names": {api.Class{Name: "Ab", Super: "Xy"}, twoWritten},
		"one name":  {api.Class{Name: "Ab", Super: "Ab", Impl: []string{"Ab"}}, oneWritten},
	} {
		want := unhex(t, c.want)
		if got := file.Encode(c.c); !bytes.Equal(got, want) {
			t.Errorf("%s: Encode = % x; want % x", what, got, want)
		}
		if got, err := file.Decode(want); err != api.OK || !class.Eq(got, c.c) {
			t.Errorf("%s: Decode = %v, %d; want %v", what, got, err, c.c)
		}
		if got := sheetOf(c.c).bytes(); !bytes.Equal(got, want) {
			t.Fatalf("%s: the tests' own bytes are % x; want % x", what, got, want)
		}
	}
}

func TestEachClass(t *testing.T) {
	for what, c := range classes(t) {
		if !class.May(c) || len(sheetOf(c).bytes()) > 6000 {
			t.Fatalf("%s: the class is poor", what)
		}
		checkBoth(t, what, c)
	}
}

// A number is written as it is, whatever it is; so is each instruction that may be.
func TestEachInstruction(t *testing.T) {
	for op := range 63 {
		for _, a := range []int{0, 1, 15, 16, 63, 64, 99, 100, 8191, 8192, math.MaxInt32, math.MaxInt32 + 1, math.MaxInt, -1, -64, -65, math.MinInt32, math.MinInt32 - 1, math.MinInt} {
			for _, names := range [][2]string{{"", ""}, {"Ab", ""}, {"[Ab", ""}, {"Ab", "f"}, {"", "f"}, {"I", ""}, {"Ab", "$init"}} {
				m := runs("f", 100)
				m.Code[5] = api.Ins{Op: op, A: a, C: names[0], M: names[1]}
				checkBoth(t, fmt.Sprint(m.Code[5]), api.Class{Name: "Ab", Super: "Xy", Methods: []api.Method{m}})
			}
		}
	}
}

func TestEncodeOfNilAndEmpty(t *testing.T) {
	none := api.Class{
		Name: "Ab", Super: "Xy", Impl: []string{}, Fields: []api.Field{},
		Methods: []api.Method{{Name: "f", Params: []string{}, Ret: "V", Static: true, Stack: 1, Code: []api.Ins{{Op: api.ORet}}, Maps: []api.Map{{Locals: []string{}, Stack: []string{}}}, Traps: []api.Trap{}}},
	}
	void := api.Class{
		Name: "Ab", Super: "Xy",
		Methods: []api.Method{{Name: "f", Ret: "V", Static: true, Stack: 1, Code: []api.Ins{{Op: api.ORet}}, Maps: []api.Map{{}}}},
	}
	checkBoth(t, "empty lists", none)
	checkBoth(t, "nil lists", void)
	if !bytes.Equal(file.Encode(none), file.Encode(void)) {
		t.Error("nil and empty lists are written unlike")
	}
	checkBoth(t, "no methods", api.Class{Name: "Ab", Super: "Xy", Methods: []api.Method{}})
}

func TestEncodeOfWhatMayNotBe(t *testing.T) {
	checkBoth(t, "zero", api.Class{})
	for what, change := range map[string]func(c *api.Class){
		"no Name":             func(c *api.Class) { c.Name = "" },
		"a long Name":         func(c *api.Class) { c.Name = "Abcdefghi" },
		"a small Super":       func(c *api.Class) { c.Super = "xy" },
		"an Impl twice":       func(c *api.Class) { c.Impl[1] = c.Impl[0] },
		"5 Impl":              func(c *api.Class) { c.Impl = many(5, className) },
		"an interface":        func(c *api.Class) { c.Interface = true },
		"a field twice":       func(c *api.Class) { c.Fields[1].Name = c.Fields[0].Name },
		"a field $init":       func(c *api.Class) { c.Fields[0].Name = "$init" },
		"a field of V":        func(c *api.Class) { c.Fields[0].Type = "V" },
		"a method twice":      func(c *api.Class) { c.Methods[1] = c.Methods[0] },
		"an abstract one":     func(c *api.Class) { c.Methods[0] = face().Methods[0] },
		"a param of V":        func(c *api.Class) { c.Methods[0].Params[0] = "V" },
		"few Locals":          func(c *api.Class) { c.Methods[0].Locals = 2; c.Methods[0].Maps = nil },
		"Locals below 0":      func(c *api.Class) { c.Methods[1].Locals = -1 },
		"17 Stack":            func(c *api.Class) { c.Methods[0].Stack = 17 },
		"no Code":             func(c *api.Class) { c.Methods[1].Code = nil },
		"101 instructions":    func(c *api.Class) { c.Methods[1].Code = runs("f", 101).Code },
		"an end that goes on": func(c *api.Class) { c.Methods[1].Code[0] = api.Ins{Op: api.OPop} },
		"a jump too far":      func(c *api.Class) { c.Methods[1].Code[0] = api.Ins{Op: api.OGoto, A: 1} },
		"a map too far":       func(c *api.Class) { c.Methods[0].Maps[0].At = 3 },
		"a map's T":           func(c *api.Class) { c.Methods[0].Maps[0].Stack[0] = "T" },
		"a trap of nothing":   func(c *api.Class) { c.Methods[0].Traps[0].To = 0 },
		"a trap of [Ab":       func(c *api.Class) { c.Methods[0].Traps[0].C = "[Ab" },
		"bytes, not letters":  func(c *api.Class) { c.Name = "A\xff" },
		"a huge Name":         func(c *api.Class) { c.Name = strings.Repeat("A", 1<<22) },
		"huge Impl":           func(c *api.Class) { c.Impl = same(1<<20, "Ab") },
		"huge Methods":        func(c *api.Class) { c.Methods = make([]api.Method, 1<<16) },
		"huge Code":           func(c *api.Class) { c.Methods[0].Code = make([]api.Ins, 1<<20) },
	} {
		c := whole()
		change(&c)
		if class.May(c) {
			t.Fatalf("%s: it may be", what)
		}
		if got := file.Encode(c); got != nil {
			t.Errorf("%s: Encode gave %d bytes; want nil", what, len(got))
		}
		if !strings.Contains(what, "huge") {
			checkBoth(t, what, c)
		}
	}
}

func TestLength(t *testing.T) {
	for n := 5980; n <= 6020; n++ {
		c := sized(t, n)
		checkBoth(t, fmt.Sprint(n, " bytes"), c)
		if got := file.Encode(c); n <= 6000 && len(got) != n || n > 6000 && got != nil {
			t.Errorf("Encode of a class of %d bytes gave %d", n, len(got))
		}
	}
	c := longest(t)
	checkBoth(t, "6,000 bytes, texts for the most", c)
	c.Name = "Abc"
	if len(sheetOf(c).bytes()) != 6001 {
		t.Fatal("the class is poor")
	}
	checkBoth(t, "6,001 bytes, texts for the most", c)
	c.Methods[0].Maps = many(40, func(i int) api.Map { return api.Map{At: i} })
	checkBoth(t, "6,001 bytes and more", c)
}

// All counts at their bounds at once: far beyond the bytes that there may be.
func TestGreatest(t *testing.T) {
	c := api.Class{Name: "Abcdefgh", Super: "Abcdefgh", Impl: many(4, className)}
	c.Fields = many(8, func(i int) api.Field { return api.Field{Name: memberName(i), Type: "[[Abcdefgh"} })
	c.Methods = many(8, func(i int) api.Method {
		m := runs(memberName(i), 100)
		m.Static, m.Params, m.Ret, m.Locals, m.Stack = false, same(6, "[[Abcdefgh"), "[[Abcdefgh", 16, 16
		m.Traps = same(6, api.Trap{From: 99, To: 100, At: 99, C: "Abcdefgh"})
		m.Maps = many(100, func(i int) api.Map {
			return api.Map{At: i, Locals: many(16, func(k int) string { return className(i*16 + k) }), Stack: same(16, "[[Abcdefgh")}
		})
		return m
	})
	if !class.May(c) {
		t.Fatal("the class is poor")
	}
	checkBoth(t, "the greatest", c)
	for i := range c.Methods {
		c.Methods[i].Maps, c.Methods[i].Code = nil, c.Methods[i].Code[:100]
	}
	checkBoth(t, "the greatest without maps", c)
}
