package link_test

import (
	"slices"
	"strconv"
	"strings"
	"testing"

	"daguerre/api"
	"daguerre/class"
	"daguerre/hier"
	"daguerre/link"
)

func cl(name, super string, impl ...string) api.Class {
	return api.Class{Name: name, Super: super, Impl: impl}
}

func face(name string, impl ...string) api.Class {
	return api.Class{Name: name, Super: "Object", Interface: true, Impl: impl}
}

func with(c api.Class, methods ...api.Method) api.Class {
	c.Methods = append(slices.Clone(c.Methods), methods...)
	return c
}

func holding(c api.Class, fields ...api.Field) api.Class {
	c.Fields = append(slices.Clone(c.Fields), fields...)
	return c
}

// A mark makes methods of one name unlike, so that which one was found can be seen.

func own(name string, mark int) api.Method {
	return api.Method{Name: name, Ret: "V", Locals: 1, Stack: mark, Code: []api.Ins{{Op: api.ORet}}}
}

func static(name string, mark int) api.Method {
	return api.Method{Name: name, Ret: "V", Static: true, Stack: mark, Code: []api.Ins{{Op: api.ORet}}}
}

func abstract(name string, mark int) api.Method {
	return api.Method{Name: name, Params: slices.Repeat([]string{"I"}, mark%7), Ret: "V", Abstract: true}
}

// step gives a method with some of all that a method has.
func step() api.Method {
	return api.Method{
		Name: "step", Params: []string{"I", "Bb"}, Ret: "Cc", Locals: 3, Stack: 3,
		Code: []api.Ins{{Op: api.OLoad, A: 1}, {Op: api.OIfeq, A: 3}, {Op: api.ONew, C: "Bb"}, {Op: api.OGetf, C: "Bb", M: "next"}, {Op: api.OAret}},
		Maps: []api.Map{
			{At: 1, Locals: []string{"Bb", "T", "I"}, Stack: []string{"I", "[Bb"}},
			{At: 3, Locals: []string{"N", "[[I", "T"}, Stack: []string{"N"}},
		},
		Traps: []api.Trap{{From: 1, To: 4, At: 3, C: "BadErr"}, {From: 0, To: 5, At: 1}},
	}
}

// world gives a set in which names stand here and above, static and not, and by several ways.
// Of classes: Dd of Cc of Bb of Aa; Ee alone; WorseErr of BadErr. Ii is an interface of no other.
func world() []api.Class {
	return []api.Class{
		with(cl("WorseErr", "BadErr"), static("f", 1)),
		with(face("Gg", "Hh", "Ff"), abstract("g", 1)),
		with(holding(cl("Cc", "Bb", "Gg"), api.Field{Name: "f", Type: "I"}), own("g", 2), own("s", 2), step(), static("h", 2)),
		with(face("Ff"), abstract("f", 2), abstract("k", 2)),
		with(holding(cl("Aa", "Object"), api.Field{Name: "x", Type: "I"}, api.Field{Name: "y", Type: "Aa", Static: true}, api.Field{Name: "z", Type: "[[Aa"}),
			own("f", 3), static("s", 3), static("$init", 3), own("g", 3), own("h", 3), static("t", 3)),
		with(face("Yy", "Gg", "Ff", "Hh"), abstract("k", 3)),
		cl("Dd", "Cc", "Yy"),
		with(face("Ss", "Tt"), abstract("q", 4)),
		with(holding(cl("Bb", "Aa", "Ff"), api.Field{Name: "w", Type: "Bb", Static: true}, api.Field{Name: "x", Type: "[I"}, api.Field{Name: "y", Type: "I"}),
			static("g", 4), static("$init", 4), own("f", 4)),
		with(face("Tt", "Ab"), abstract("p", 5)),
		with(holding(cl("BadErr", "MathErr"), api.Field{Name: "code", Type: "I"}), own("f", 5), static("$init", 5)),
		with(face("Hh", "Ii"), abstract("m", 6), abstract("k", 6)),
		with(holding(cl("Ee", "Object"), api.Field{Name: "x", Type: "Ee"}), own("e", 6), own("f", 6)),
		with(face("Ii"), abstract("n", 0), abstract("m", 0)),
		with(face("Ab"), abstract("p", 1), abstract("q", 1)),
	}
}

// inWorld gives the field and the method of that name that stand in world's class itself.
func inWorld(who, name string) (api.Field, api.Method) {
	var f api.Field
	var m api.Method
	for _, c := range world() {
		if at := class.Field(c, name); c.Name == who && at >= 0 {
			f = c.Fields[at]
		}
		if at := class.Method(c, name); c.Name == who && at >= 0 {
			m = c.Methods[at]
		}
	}
	return f, m
}

func mustNew(t *testing.T, l []api.Class) *hier.Hier {
	t.Helper()
	h, err := hier.New(l)
	if err != api.OK {
		t.Fatalf("New = %v; want a Hier", err)
	}
	return h
}

func sameMethod(a, b api.Method) bool {
	return class.Eq(api.Class{Methods: []api.Method{a}}, api.Class{Methods: []api.Method{b}})
}

func checkField(t *testing.T, h *hier.Hier, c, name, want string, f api.Field) {
	t.Helper()
	if who, got, ok := link.Field(h, c, name); who != want || got != f || ok != (want != "") {
		t.Errorf("Field(%.20q, %.20q) = %q, %v, %v; want %q, %v", c, name, who, got, ok, want, f)
	}
}

type finder struct {
	name string
	find func(h *hier.Hier, c, name string) (string, api.Method, bool)
}

func byMethod() finder { return finder{"Method", link.Method} }

func byFace() finder { return finder{"Face", link.Face} }

func checkMethod(t *testing.T, by finder, h *hier.Hier, c, name, want string, m api.Method) {
	t.Helper()
	if who, got, ok := by.find(h, c, name); who != want || !sameMethod(got, m) || ok != (want != "") {
		t.Errorf("%s(%.20q, %.20q) = %q, %v, %v; want %q, %v", by.name, c, name, who, got, ok, want, m)
	}
}

func checkChosen(t *testing.T, h *hier.Hier, c, name, want string) {
	t.Helper()
	if who, ok := link.Chosen(h, c, name); who != want || ok != (want != "") {
		t.Errorf("Chosen(%.20q, %.20q) = %q, %v; want %q", c, name, who, ok, want)
	}
}

// checkNone holds that h finds nothing.
func checkNone(t *testing.T, h *hier.Hier, c, name string) {
	t.Helper()
	checkField(t, h, c, name, "", api.Field{})
	checkMethod(t, byMethod(), h, c, name, "", api.Method{})
	checkMethod(t, byFace(), h, c, name, "", api.Method{})
	checkChosen(t, h, c, name, "")
}

// checkAll holds what is found of each class and each name against the reckoning.
func checkAll(t *testing.T, l []api.Class, classes, names []string) {
	t.Helper()
	h, b := mustNew(t, l), bookOf(l)
	for _, c := range classes {
		for _, name := range names {
			who, f := b.field(c, name)
			checkField(t, h, c, name, who, f)
			who, m := b.method(c, name)
			checkMethod(t, byMethod(), h, c, name, who, m)
			who, m = b.face(c, name)
			checkMethod(t, byFace(), h, c, name, who, m)
			checkChosen(t, h, c, name, b.chosen(c, name))
		}
	}
	if t.Failed() {
		t.Fatalf("of the set %v", l)
	}
}

func givenNames() []string {
	return []string{"Object", "Thrown", "NullErr", "RangeErr", "MathErr", "CastErr", "SizeErr", "StoreErr", "InitErr", "ClassErr"}
}

func classNames(l []api.Class) []string {
	list := givenNames()
	for _, c := range l {
		list = append(list, c.Name)
	}
	return list
}

// memberNames gives the names of all fields and methods of l, each once.
func memberNames(l []api.Class) []string {
	var list []string
	for _, c := range l {
		for _, f := range c.Fields {
			list = append(list, f.Name)
		}
		for _, m := range c.Methods {
			list = append(list, m.Name)
		}
	}
	slices.Sort(list)
	return slices.Compact(list)
}

// strange gives texts that are neither a class nor a member of any set here.
func strange() []string {
	return []string{
		"", "I", "V", "N", "T", "A", "F", "X", "nobody", "Nobody", "object", "OBJECT", "Objec", "Objects", "Object ", "aa", "AA", "Aaa", "Aa.x", "xx", "ff", " f", "f ", "f\x00",
		"$", "$ini", "$Init", "$init ", "init", "$initt", "[", "[[", "[I", "[[I", "[Aa", "[[Aa", "[[[Aa", "[Object", "[Ff", "\x00", "\xff",
		strings.Repeat("a", 5000), strings.Repeat("A", 5000), strings.Repeat("[", 5000) + "Aa",
	}
}

func classAt(i int) string { return "C" + strconv.Itoa(i) }

func faceAt(i int) string { return "F" + strconv.Itoa(i) }

// dice gives numbers that are the same at each run.
type dice uint64

func (d *dice) below(n int) int {
	*d = *d*6364136223846793005 + 1442695040888963407
	return int(uint64(*d)>>33) % n
}
