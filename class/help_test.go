package class_test

import (
	"math"
	"slices"
	"strconv"
	"strings"
	"testing"

	"daguerre/api"
	"daguerre/class"
)

func checkMay(t *testing.T, what string, c api.Class, want bool) {
	t.Helper()
	if got := class.May(c); got != want {
		t.Errorf("%s: May = %v; want %v", what, got, want)
	}
}

// text is a text and what the chapters say of it, written out.
type text struct {
	s                    string
	aClass, aName, aType bool
}

func texts() []text {
	list := []text{{s: "I", aType: true}, {s: "$init", aName: true}}
	for _, s := range []string{"Ab", "Object", "II", "NN", "TT", "VV", "A0", "Z9", "Abcdefgh"} {
		list = append(list, text{s: s, aClass: true, aType: true})
	}
	for _, s := range []string{"a", "i", "v", "f", "ab", "aB9", "init", "abcdefgh"} {
		list = append(list, text{s: s, aName: true})
	}
	for _, s := range []string{"[I", "[[I", "[Ab", "[[Ab", "[Abcdefgh", "[[Abcdefgh"} {
		list = append(list, text{s: s, aType: true})
	}
	for _, s := range []string{"", "V", "N", "T", "A", "Abcdefghi", "abcdefghi", "[", "[[", "[V", "[N", "[T", "[[V", "[[[I", "[[[Ab", "[A", "[a", "[Abcdefghi", "[$init", "$", "$ini", "$inits", "9A", "9a", "A_", "a_", "Ab ", " Ab", "a ", "Aé", "aé", "\x00", "Ab\x00", "a\x00", "N ", "II ", strings.Repeat("A", 5000), strings.Repeat("a", 5000), strings.Repeat("[", 5000) + "I"} {
		list = append(list, text{s: s})
	}
	return list
}

// far are numbers that no part may be.
func far() []int {
	return []int{math.MinInt, math.MinInt + 1, math.MinInt32, -1 << 32, -100, -2, -1, 101, 127, 128, 255, 256, 1 << 16, math.MaxInt32, 1 << 31, 1 << 32, 1<<32 + 1, 1 << 62, math.MaxInt - 1, math.MaxInt}
}

// upTo gives the numbers from least to most, and far ones.
func upTo(least, most int) []int {
	list := far()
	for n := least; n <= most; n++ {
		list = append(list, n)
	}
	return list
}

// many gives n of what one gives of each place.
func many[T any](n int, one func(i int) T) []T {
	list := make([]T, 0, n)
	for i := range n {
		list = append(list, one(i))
	}
	return list
}

func same[T any](n int, x T) []T {
	return slices.Repeat([]T{x}, n)
}

func className(i int) string { return "C" + strconv.Itoa(i) }

func memberName(i int) string { return "m" + strconv.Itoa(i) }

func ret() api.Ins { return api.Ins{Op: api.ORet} }

func jump(op, at int) api.Ins { return api.Ins{Op: op, A: at} }

// runs gives a static method of n instructions that may be.
func runs(name string, n int) api.Method {
	return api.Method{Name: name, Ret: "V", Static: true, Code: same(n, ret())}
}

func abstract(name string) api.Method {
	return api.Method{Name: name, Ret: "V", Abstract: true}
}

// with gives a class of these methods.
func with(list ...api.Method) api.Class {
	return api.Class{Name: "Ab", Super: "Xy", Methods: list}
}

// face gives an interface of these methods.
func face(list ...api.Method) api.Class {
	return api.Class{Name: "Ab", Super: "Object", Interface: true, Methods: list}
}

// step gives a method of an object, with some of all that a method has: five instructions, two locals, three on the stack.
func step() api.Method {
	return api.Method{
		Name: "step", Params: []string{"I"}, Ret: "Ab", Locals: 2, Stack: 3,
		Code: []api.Ins{{Op: api.OLoad, A: 1}, {Op: api.OIfeq, A: 3}, {Op: api.ONew, C: "Ab"}, {Op: api.OGetf, C: "Ab", M: "next"}, {Op: api.OAret}},
		Maps: []api.Map{
			{At: 1, Locals: []string{"Ab", "T"}, Stack: []string{"I", "[Ab"}},
			{At: 3, Locals: []string{"N", "[[I"}, Stack: []string{"N"}},
		},
		Traps: []api.Trap{{From: 1, To: 4, At: 3, C: "Err"}, {From: 0, To: 5, At: 1}},
	}
}

// whole gives a class that has some of all that a class has.
func whole() api.Class {
	return api.Class{
		Name: "Ab", Super: "Xy",
		Impl:    []string{"Face", "Other"},
		Fields:  []api.Field{{Name: "next", Type: "Ab"}, {Name: "all", Type: "[[Ab", Static: true}, {Name: "count", Type: "I"}},
		Methods: []api.Method{step(), runs("$init", 2), runs("main", 1)},
	}
}

// changed gives whole with its first method changed.
func changed(change func(m *api.Method)) api.Class {
	c := whole()
	change(&c.Methods[0])
	return c
}
