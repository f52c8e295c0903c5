package hier_test

import (
	"fmt"
	"slices"
	"strconv"
	"strings"
	"testing"

	"daguerre/api"
	"daguerre/class"
	"daguerre/hier"
)

func cl(name, super string, impl ...string) api.Class {
	return api.Class{Name: name, Super: super, Impl: impl}
}

func face(name string, impl ...string) api.Class {
	return api.Class{Name: name, Super: "Object", Interface: true, Impl: impl}
}

// classAt and faceAt give names that may be, another one for each number.
func classAt(i int) string { return "C" + strconv.Itoa(i) }

func faceAt(i int) string { return "F" + strconv.Itoa(i) }

// many gives n of what one gives of each place.
func many[T any](n int, one func(i int) T) []T {
	list := make([]T, 0, n)
	for i := range n {
		list = append(list, one(i))
	}
	return list
}

func ret() api.Ins { return api.Ins{Op: api.ORet} }

// step gives a method with some of all that a method has.
func step() api.Method {
	return api.Method{
		Name: "step", Params: []string{"I", "Mallard"}, Ret: "Bird", Locals: 3, Stack: 3,
		Code: []api.Ins{{Op: api.OLoad, A: 1}, {Op: api.OIfeq, A: 3}, {Op: api.ONew, C: "Bird"}, {Op: api.OGetf, C: "Bird", M: "next"}, {Op: api.OAret}},
		Maps: []api.Map{
			{At: 1, Locals: []string{"Bird", "T", "I"}, Stack: []string{"I", "[Bird"}},
			{At: 3, Locals: []string{"N", "[[I", "T"}, Stack: []string{"N"}},
		},
		Traps: []api.Trap{{From: 1, To: 4, At: 3, C: "BadErr"}, {From: 0, To: 5, At: 1}},
	}
}

func runs(name string) api.Method {
	return api.Method{Name: name, Ret: "V", Static: true, Code: []api.Ins{ret(), ret()}}
}

func abstract(name string) api.Method {
	return api.Method{Name: name, Params: []string{"I", "[Bird"}, Ret: "V", Abstract: true}
}

// world gives a set in which neither the names nor what comes from what stands in order, and in which Mallard is of Run by several ways.
func world() []api.Class {
	bird := cl("Bird", "Animal", "Walk", "Fly")
	bird.Fields = []api.Field{{Name: "next", Type: "Bird"}, {Name: "all", Type: "[[Bird", Static: true}, {Name: "count", Type: "I"}}
	bird.Methods = []api.Method{step(), runs("$init"), runs("main")}
	duck := face("Duck", "Walk", "Swim", "Fly")
	duck.Methods = []api.Method{abstract("quack"), abstract("dive")}
	return []api.Class{
		cl("Mallard", "Bird", "Run", "Duck"),
		cl("Stone", "Object"),
		face("Walk", "Run"),
		bird,
		face("Fly", "Run"),
		cl("BadErr", "MathErr", "Run"),
		face("Swim"),
		cl("Animal", "Object"),
		face("Run"),
		cl("WorseErr", "BadErr"),
		duck,
	}
}

func mustNew(t *testing.T, l []api.Class) *hier.Hier {
	t.Helper()
	h, err := hier.New(l)
	if err != api.OK || h == nil {
		t.Fatalf("New = %v, %v; want a Hier", h, err)
	}
	return h
}

func checkNew(t *testing.T, what string, l []api.Class, want api.Errno) *hier.Hier {
	t.Helper()
	h, err := hier.New(l)
	if err != want || (h != nil) != (want == api.OK) {
		t.Errorf("%s: New = a Hier %v, %v; want %v", what, h != nil, err, want)
	}
	if reckoned := wantNew(l); reckoned != want {
		t.Errorf("%s: the reckoning says %v; want %v", what, reckoned, want)
	}
	return h
}

func checkList(t *testing.T, what string, got, want []string) {
	t.Helper()
	if !slices.Equal(got, want) {
		t.Errorf("%s = %q; want %q", what, got, want)
	}
}

func checkSub(t *testing.T, h *hier.Hier, a, b string, want bool) {
	t.Helper()
	if got := h.Sub(a, b); got != want {
		t.Errorf("Sub(%.20q, %.20q) = %v; want %v", a, b, got, want)
	}
}

// strange gives texts that are no class of any set here: no types, types that are not there, and longer ones.
func strange() []string {
	return []string{
		"", "V", "N", "T", "A", "i", "Zz", "Nobody", "object", "OBJECT", "Objec", "Objects", "Object ", " Object", "Object\x00", "\x00", "\xff",
		"$init", "[", "[[", "[[[", "[]", "[V", "[N", "[T", "[[V", "[[[I", "[[[[I", "[[[Object", "[[[Bird", "[ I", "I[", "[I[", "Bird[", "[Zz", "[[Zz", "[Objec", "[[object",
		"Abcdefghi", "[Abcdefghi", strings.Repeat("A", 5000), strings.Repeat("[", 5000) + "I", strings.Repeat("[", 5000) + "Object",
	}
}

// arrays gives the types of one and of two dimensions, too.
func arrays(list []string) []string {
	all := slices.Clone(list)
	for _, s := range list {
		all = append(all, "["+s, "[["+s)
	}
	return all
}

// checkWho holds what h says of each class, and of each of the texts, against the reckoning.
func checkWho(t *testing.T, what string, h *hier.Hier, l []api.Class, texts []string) {
	t.Helper()
	b := bookOf(l)
	checkList(t, what+": Names", h.Names(), b.names())
	for _, s := range append(b.names(), texts...) {
		checkList(t, fmt.Sprintf("%s: Supers(%.20q)", what, s), h.Supers(s), b.supers(s))
		checkList(t, fmt.Sprintf("%s: Faces(%.20q)", what, s), h.Faces(s), b.faces(s))
		got, ok := h.Class(s)
		want, wantOK := b.find(s)
		if ok != wantOK || !class.Eq(got, want) {
			t.Errorf("%s: Class(%.20q) = %v, %v; want %v, %v", what, s, got, ok, want, wantOK)
		}
	}
}

// checkPairs holds Sub of each pair of the texts against the reckoning.
func checkPairs(t *testing.T, h *hier.Hier, l []api.Class, texts []string) {
	t.Helper()
	b := bookOf(l)
	for _, x := range texts {
		for _, y := range texts {
			checkSub(t, h, x, y, b.sub(x, y))
		}
	}
}
