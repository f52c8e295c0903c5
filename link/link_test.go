package link_test

import (
	"fmt"
	"reflect"
	"slices"
	"strings"
	"testing"

	"daguerre/api"
	"daguerre/hier"
	"daguerre/link"
)

// found is a line of what is asked of world and who has it; "" is nobody.
type found struct{ c, name, who string }

func TestFieldWrittenOut(t *testing.T) {
	h := mustNew(t, world())
	for _, x := range []found{
		// Of itself, static ones too.
		{"Aa", "x", "Aa"}, {"Aa", "y", "Aa"}, {"Aa", "z", "Aa"}, {"Bb", "w", "Bb"}, {"Ee", "x", "Ee"}, {"BadErr", "code", "BadErr"},
		// Here and above.
		{"Bb", "x", "Bb"}, {"Bb", "y", "Bb"}, {"Cc", "x", "Bb"}, {"Cc", "y", "Bb"}, {"Dd", "x", "Bb"}, {"Dd", "y", "Bb"},
		// Of one above.
		{"Bb", "z", "Aa"}, {"Cc", "z", "Aa"}, {"Dd", "z", "Aa"}, {"Cc", "w", "Bb"}, {"Dd", "w", "Bb"}, {"Dd", "f", "Cc"}, {"Cc", "f", "Cc"}, {"WorseErr", "code", "BadErr"},
		// Of one below, or beside, or a method's name.
		{"Aa", "w", ""}, {"Aa", "f", ""}, {"Bb", "f", ""}, {"Ee", "z", ""}, {"Ee", "e", ""}, {"Aa", "$init", ""}, {"Dd", "$init", ""}, {"Dd", "code", ""}, {"MathErr", "code", ""}, {"Thrown", "code", ""},
		// Interfaces and given classes have none.
		{"Ff", "f", ""}, {"Ff", "x", ""}, {"Yy", "x", ""}, {"Object", "x", ""}, {"Object", "f", ""}, {"ClassErr", "x", ""},
		// Not there.
		{"Zz", "x", ""}, {"", "x", ""}, {"I", "x", ""}, {"[Aa", "x", ""}, {"aa", "x", ""}, {"Aa", "", ""}, {"Aa", "X", ""}, {"Aa", "xx", ""}, {"", "", ""},
	} {
		f, _ := inWorld(x.who, x.name)
		checkField(t, h, x.c, x.name, x.who, f)
	}
	checkField(t, h, "Dd", "x", "Bb", api.Field{Name: "x", Type: "[I"})
	checkField(t, h, "Dd", "y", "Bb", api.Field{Name: "y", Type: "I"})
	checkField(t, h, "Aa", "y", "Aa", api.Field{Name: "y", Type: "Aa", Static: true})
	checkField(t, h, "Dd", "z", "Aa", api.Field{Name: "z", Type: "[[Aa"})
}

func TestMethodWrittenOut(t *testing.T) {
	h := mustNew(t, world())
	for _, x := range []found{
		// Of itself.
		{"Aa", "f", "Aa"}, {"Aa", "s", "Aa"}, {"Aa", "g", "Aa"}, {"Aa", "t", "Aa"}, {"Cc", "step", "Cc"}, {"Ee", "e", "Ee"}, {"BadErr", "f", "BadErr"},
		// Written anew: static for one of objects, and the other way.
		{"Bb", "f", "Bb"}, {"Bb", "g", "Bb"}, {"Cc", "g", "Cc"}, {"Cc", "s", "Cc"}, {"Cc", "h", "Cc"}, {"WorseErr", "f", "WorseErr"},
		// Of one above.
		{"Bb", "s", "Aa"}, {"Bb", "h", "Aa"}, {"Cc", "f", "Bb"}, {"Dd", "f", "Bb"}, {"Dd", "g", "Cc"}, {"Dd", "s", "Cc"}, {"Dd", "h", "Cc"}, {"Dd", "t", "Aa"}, {"Dd", "step", "Cc"},
		// Never an initialiser, neither its own nor one above.
		{"Aa", "$init", ""}, {"Bb", "$init", ""}, {"Cc", "$init", ""}, {"Dd", "$init", ""}, {"BadErr", "$init", ""}, {"WorseErr", "$init", ""}, {"Ee", "$init", ""}, {"Object", "$init", ""}, {"Ff", "$init", ""}, {"Zz", "$init", ""},
		// An interface's own abstract ones, and not those that it comes from.
		{"Ff", "f", "Ff"}, {"Ff", "k", "Ff"}, {"Gg", "g", "Gg"}, {"Gg", "f", ""}, {"Gg", "k", ""}, {"Yy", "k", "Yy"}, {"Yy", "g", ""}, {"Ss", "p", ""}, {"Ii", "n", "Ii"}, {"Hh", "n", ""},
		// A class has none of its interfaces.
		{"Bb", "k", ""}, {"Cc", "k", ""}, {"Cc", "m", ""}, {"Dd", "k", ""}, {"Dd", "n", ""},
		// Of one below, or beside, or a field's name.
		{"Aa", "step", ""}, {"Bb", "step", ""}, {"Aa", "e", ""}, {"Ee", "g", ""}, {"Aa", "x", ""}, {"Dd", "w", ""}, {"MathErr", "f", ""}, {"Object", "f", ""}, {"Thrown", "f", ""},
		// Not there.
		{"Zz", "f", ""}, {"", "f", ""}, {"I", "f", ""}, {"[Aa", "f", ""}, {"aa", "f", ""}, {"Aa", "", ""}, {"Aa", "F", ""}, {"Aa", "ff", ""}, {"", "", ""},
	} {
		_, m := inWorld(x.who, x.name)
		checkMethod(t, byMethod(), h, x.c, x.name, x.who, m)
	}
	checkMethod(t, byMethod(), h, "Dd", "g", "Cc", own("g", 2))
	checkMethod(t, byMethod(), h, "Bb", "g", "Bb", static("g", 4))
	checkMethod(t, byMethod(), h, "Dd", "step", "Cc", step())
	checkMethod(t, byMethod(), h, "Ff", "k", "Ff", abstract("k", 2))
}

func TestFaceWrittenOut(t *testing.T) {
	h := mustNew(t, world())
	for _, x := range []found{
		// Its own, though others above have it.
		{"Ff", "f", "Ff"}, {"Ff", "k", "Ff"}, {"Gg", "g", "Gg"}, {"Hh", "k", "Hh"}, {"Hh", "m", "Hh"}, {"Ii", "m", "Ii"}, {"Ii", "n", "Ii"}, {"Yy", "k", "Yy"}, {"Ss", "q", "Ss"}, {"Tt", "p", "Tt"}, {"Ab", "p", "Ab"},
		// One above, by one step, by more, by several ways.
		{"Gg", "f", "Ff"}, {"Hh", "n", "Ii"}, {"Gg", "n", "Ii"}, {"Yy", "n", "Ii"}, {"Yy", "g", "Gg"}, {"Yy", "f", "Ff"}, {"Tt", "q", "Ab"},
		// The first by name: neither the nearest one nor the first Impl.
		{"Gg", "k", "Ff"}, {"Gg", "m", "Hh"}, {"Yy", "m", "Hh"}, {"Ss", "p", "Ab"},
		// A name that none has, or one below, or one beside.
		{"Ff", "g", ""}, {"Hh", "f", ""}, {"Hh", "g", ""}, {"Ii", "k", ""}, {"Ff", "x", ""}, {"Ab", "k", ""}, {"Tt", "f", ""}, {"Gg", "step", ""}, {"Yy", "", ""}, {"Yy", "K", ""}, {"Yy", "$init", ""},
		// A class is none, though it has the method, or one of its interfaces does.
		{"Aa", "f", ""}, {"Bb", "f", ""}, {"Bb", "k", ""}, {"Cc", "g", ""}, {"Dd", "k", ""}, {"Dd", "f", ""}, {"BadErr", "f", ""}, {"Object", "f", ""}, {"Thrown", "f", ""},
		// Not there.
		{"Zz", "f", ""}, {"", "f", ""}, {"I", "f", ""}, {"[Ff", "f", ""}, {"ff", "f", ""}, {"", "", ""},
	} {
		_, m := inWorld(x.who, x.name)
		checkMethod(t, byFace(), h, x.c, x.name, x.who, m)
	}
	checkMethod(t, byFace(), h, "Ss", "p", "Ab", abstract("p", 1))
	checkMethod(t, byFace(), h, "Ss", "q", "Ss", abstract("q", 4))
}

// Names rise byte by byte: digits, then great letters, then small ones; what is shorter comes first.
func TestFaceRises(t *testing.T) {
	names := []string{"A0", "A9", "AA", "Aa", "Aaa", "Ab", "Az", "B0", "Zz"}
	for first := range names {
		l := []api.Class{face("Mm", "Nn", "Zz", "AA", "A9"), with(face("Nn", "Ab", "Oo", "Aaa", "Az"), abstract("other", 1)), face("Oo", "B0", "Aa", "A0")}
		for i := len(names) - 1; i >= 0; i-- {
			f := face(names[i])
			if i >= first {
				f = with(f, abstract("f", i))
			}
			l = append(l, f)
		}
		for range l {
			l = append(l[1:], l[0])
			checkMethod(t, byFace(), mustNew(t, l), "Mm", "f", names[first], abstract("f", first))
		}
	}
}

func TestChosenWrittenOut(t *testing.T) {
	h := mustNew(t, world())
	for _, x := range []found{
		// The nearest one.
		{"Aa", "f", "Aa"}, {"Aa", "g", "Aa"}, {"Bb", "f", "Bb"}, {"Cc", "f", "Bb"}, {"Dd", "f", "Bb"}, {"Cc", "g", "Cc"}, {"Dd", "g", "Cc"}, {"Cc", "step", "Cc"}, {"Dd", "step", "Cc"}, {"Ee", "e", "Ee"}, {"Ee", "f", "Ee"}, {"BadErr", "f", "BadErr"},
		// A static one of that name stands nearer.
		{"Bb", "g", "Aa"}, {"Cc", "h", "Aa"}, {"Dd", "h", "Aa"}, {"WorseErr", "f", "BadErr"}, {"Bb", "h", "Aa"},
		// A static one stands above.
		{"Cc", "s", "Cc"}, {"Dd", "s", "Cc"},
		// All of that name are static.
		{"Aa", "s", ""}, {"Bb", "s", ""}, {"Aa", "t", ""}, {"Bb", "t", ""}, {"Dd", "t", ""}, {"Aa", "$init", ""}, {"Bb", "$init", ""}, {"Dd", "$init", ""}, {"WorseErr", "$init", ""},
		// Of one below, or beside, or an interface's, or a field's name.
		{"Bb", "step", ""}, {"Aa", "e", ""}, {"Ee", "g", ""}, {"Bb", "k", ""}, {"Dd", "k", ""}, {"Dd", "n", ""}, {"Aa", "x", ""}, {"MathErr", "f", ""},
		// An interface, though it has one that is not static.
		{"Ff", "f", ""}, {"Ff", "k", ""}, {"Gg", "g", ""}, {"Gg", "f", ""}, {"Yy", "k", ""},
		// A given class.
		{"Object", "f", ""}, {"Thrown", "f", ""}, {"ClassErr", "f", ""},
		// Not there.
		{"Zz", "f", ""}, {"", "f", ""}, {"I", "f", ""}, {"[Aa", "f", ""}, {"aa", "f", ""}, {"Aa", "", ""}, {"Aa", "F", ""}, {"Aa", "nobody", ""}, {"", "", ""},
	} {
		checkChosen(t, h, x.c, x.name, x.who)
	}
}

func TestAllOfWorld(t *testing.T) {
	l := world()
	for range l {
		l = append(l[1:], l[0])
		checkAll(t, l, classNames(l), memberNames(l))
	}
	checkAll(t, l, classNames(l), strange())
	checkAll(t, l, append(strange(), "Zz"), append(memberNames(l), strange()...))
}

func checkAlike(t *testing.T, what string, a, b api.Method, want bool) {
	t.Helper()
	for range 2 {
		if got := link.Alike(a, b); got != want {
			t.Errorf("%s: Alike(%v, %v) = %v; want %v", what, a, b, got, want)
		}
		a, b = b, a
	}
}

func TestAlike(t *testing.T) {
	m := func(ret string, params ...string) api.Method { return api.Method{Params: params, Ret: ret} }
	for _, x := range []struct {
		a, b api.Method
		want bool
	}{
		{m(""), m(""), true}, {m("V"), m("V"), true}, {m("V", "I"), m("V", "I"), true}, {m("Aa", "I", "[Aa", "Object"), m("Aa", "I", "[Aa", "Object"), true},
		// One Param more or less, ahead or behind.
		{m("V"), m("V", "I"), false}, {m("V", "I"), m("V", "I", "I"), false}, {m("V", "I", "Aa"), m("V", "I"), false}, {m("V", "I", "Aa"), m("V", "Aa"), false}, {m("V", "I", "I", "I", "I", "I", "I"), m("V", "I", "I", "I", "I", "I"), false}, {m("V"), m("V", ""), false}, {m("V", ""), m("V", "", ""), false},
		// Another Param, and the same ones in another order.
		{m("V", "I"), m("V", "Aa"), false}, {m("V", "I", "Aa"), m("V", "Aa", "I"), false}, {m("V", "I", "Aa"), m("V", "I", "Bb"), false}, {m("V", "Bb", "I"), m("V", "Aa", "I"), false}, {m("V", "I"), m("V", "[I"), false}, {m("V", "Aa"), m("V", "Object"), false}, {m("V", "I", "I", "I", "I", "I", "I"), m("V", "I", "I", "I", "I", "I", "Aa"), false}, {m("V", "Aa", "Bb"), m("V", "AaBb", ""), false},
		// Another Ret.
		{m("V"), m("I"), false}, {m("V", "I"), m("I", "I"), false}, {m("Aa", "I"), m("Object", "I"), false}, {m(""), m("V"), false}, {m("I", "V"), m("V", "I"), false}, {m("V"), m("v"), false},
	} {
		checkAlike(t, "written out", x.a, x.b, x.want)
		checkAlike(t, "itself", x.a, x.a, true)
	}
	checkAlike(t, "zero", api.Method{}, api.Method{}, true)
	checkAlike(t, "nil and empty", api.Method{Ret: "V"}, api.Method{Ret: "V", Params: []string{}}, true)
	checkAlike(t, "with room", m("V", "I", "Aa", "Bb"), api.Method{Ret: "V", Params: []string{"I", "Aa", "Bb", "I"}[:3]}, true)
	checkAlike(t, "with room that would make them the same", m("V", "I", "Aa"), api.Method{Ret: "V", Params: []string{"I", "Aa"}[:1]}, false)
}

// All else may be unlike: one part after the other, and all at once.
func TestAlikeAsksNothingElse(t *testing.T) {
	full, whole := step(), step()
	for i := range reflect.TypeFor[api.Method]().NumField() {
		name := reflect.TypeFor[api.Method]().Field(i).Name
		want := name != "Params" && name != "Ret"
		turned := step()
		reflect.ValueOf(&turned).Elem().Field(i).SetZero()
		switch name {
		case "Static":
			turned.Static = true
		case "Abstract":
			turned.Abstract = true
		}
		checkAlike(t, name, full, turned, want)
		if want {
			reflect.ValueOf(&whole).Elem().Field(i).Set(reflect.ValueOf(turned).Field(i))
		}
	}
	checkAlike(t, "all at once", full, whole, true)
	checkAlike(t, "zero but for these", full, api.Method{Params: []string{"I", "Bb"}, Ret: "Cc"}, true)
	checkAlike(t, "numbers out of bounds", full, api.Method{Name: "\xff", Params: []string{"I", "Bb"}, Ret: "Cc", Locals: -1 << 63, Stack: 1<<63 - 1, Code: make([]api.Ins, 1<<16)}, true)
}

func TestAlikeOfLongLists(t *testing.T) {
	const n = 1 << 20
	a := api.Method{Params: slices.Repeat([]string{"Aa"}, n), Ret: strings.Repeat("a", n)}
	b := api.Method{Params: slices.Repeat([]string{"Aa"}, n), Ret: strings.Repeat("a", n)}
	checkLong := func(what string, want bool) {
		t.Helper()
		if link.Alike(a, b) != want || link.Alike(b, a) != want {
			t.Errorf("%s: want %v", what, want)
		}
	}
	checkLong("the same", true)
	b.Params[n-1] = "Bb"
	checkLong("another last Param", false)
	b.Params = b.Params[:n-1]
	checkLong("one Param less", false)
	a.Params = a.Params[:n-1]
	checkLong("the same again", true)
	b.Ret = b.Ret[1:]
	checkLong("a shorter Ret", false)
}

// A nil Hier, and one that New did not make, has no classes.
func TestNoHier(t *testing.T) {
	l := world()
	for _, h := range []*hier.Hier{nil, new(hier.Hier)} {
		for _, c := range append(classNames(l), strange()...) {
			for _, name := range append(memberNames(l), strange()...) {
				checkNone(t, h, c, name)
			}
		}
	}
}

func TestGivenClassesAlone(t *testing.T) {
	h := mustNew(t, nil)
	for _, c := range append(givenNames(), strange()...) {
		for _, name := range append(memberNames(world()), strange()...) {
			checkNone(t, h, c, name)
		}
	}
}

// Each of three classes, one above the other, has each name not at all, of objects, or static; so have their fields.
func TestAllSmallChains(t *testing.T) {
	for n := range 27 * 27 {
		l := []api.Class{cl("Aa", "Bb"), cl("Bb", "Cc"), cl("Cc", "StoreErr")}
		rest := n
		for i := range l {
			l[i] = member(l[i], rest%3, i+1)
			l[i] = holds(l[i], rest/3%3, givenNames()[i])
			l[i] = with(l[i], static("$init", i))
			rest /= 9
		}
		checkAll(t, l, append(classNames(l), "Zz"), []string{"f", "$init", "g"})
	}
}

func member(c api.Class, how, mark int) api.Class {
	switch how {
	case 1:
		return with(c, own("f", mark))
	case 2:
		return with(c, static("f", mark))
	}
	return c
}

func holds(c api.Class, how int, kind string) api.Class {
	if how == 0 {
		return c
	}
	return holding(c, api.Field{Name: "f", Type: kind, Static: how == 2})
}

// Four interfaces, each of any of those behind it, each with the method or not, their names in any order.
func TestAllSmallFaces(t *testing.T) {
	orders := [][]string{{"Aa", "Bb", "Cc", "Dd"}, {"Dd", "Cc", "Bb", "Aa"}, {"Bb", "Dd", "Aa", "Cc"}, {"Cc", "Aa", "Dd", "Bb"}, {"Aa", "Dd", "Cc", "Bb"}, {"Dd", "Aa", "Bb", "Cc"}}
	for _, names := range orders {
		for n := range 1 << 10 {
			bits := n
			take := func() bool {
				bit := bits & 1
				bits >>= 1
				return bit == 1
			}
			var l []api.Class
			for i, name := range names {
				f := face(name)
				for _, up := range names[i+1:] {
					if take() {
						f.Impl = append(f.Impl, up)
					}
				}
				if take() {
					f = with(f, abstract("f", i))
				}
				l = append(l, f)
			}
			l = append(l, cl("Ee", "Object", names[0]))
			checkAll(t, l, append(names, "Ee", "Zz"), []string{"f", "g"})
		}
	}
}

// As deep as may be: what is found stands at the other end.
func TestDeepSets(t *testing.T) {
	const n = 16
	var classes, faces []api.Class
	for i := range n {
		classes = append(classes, with(cl(classAt(i), classAt(i+1)), static("s", i)))
		faces = append(faces, with(face(faceAt(i), faceAt(i+1)), abstract("k"+fmt.Sprint(i), i)))
	}
	top := classes[n-1]
	top.Super = "ClassErr"
	classes[n-1] = holding(with(top, own("f", 9), static("$init", 9)), api.Field{Name: "x", Type: "I"})
	faces[n-1].Impl = nil
	h := mustNew(t, classes)
	for i := range n {
		checkMethod(t, byMethod(), h, classAt(i), "f", "C15", own("f", 9))
		checkMethod(t, byMethod(), h, classAt(i), "s", classAt(i), static("s", i))
		checkField(t, h, classAt(i), "x", "C15", api.Field{Name: "x", Type: "I"})
		checkChosen(t, h, classAt(i), "f", "C15")
		checkChosen(t, h, classAt(i), "s", "")
	}
	checkAll(t, classes, classNames(classes), memberNames(classes))
	checkMethod(t, byFace(), mustNew(t, faces), "F0", "k15", "F15", abstract("k15", 15))
	checkAll(t, faces, classNames(faces), memberNames(faces))
}

// Eight fields and eight methods a class: each place is found.
func TestFullClasses(t *testing.T) {
	full := func(c api.Class, head string, mark int) api.Class {
		for i := range 8 {
			name := head + fmt.Sprint(i)
			c = holding(with(c, own(name, mark)), api.Field{Name: name, Type: "[" + c.Name, Static: i%2 == 0})
		}
		return c
	}
	l := []api.Class{full(cl("Aa", "Bb"), "a", 1), full(cl("Bb", "Cc"), "b", 2), full(cl("Cc", "Object"), "a", 3)}
	h := mustNew(t, l)
	for i := range 8 {
		name := "b" + fmt.Sprint(i)
		checkMethod(t, byMethod(), h, "Aa", name, "Bb", own(name, 2))
		checkField(t, h, "Aa", name, "Bb", api.Field{Name: name, Type: "[Bb", Static: i%2 == 0})
		checkChosen(t, h, "Aa", "a"+fmt.Sprint(i), "Aa")
		checkChosen(t, h, "Bb", "a"+fmt.Sprint(i), "Cc")
	}
	checkAll(t, l, classNames(l), memberNames(l))
}

// set gives a set of up to sixteen classes and interfaces with some of few names.
func (d *dice) set() []api.Class {
	var l []api.Class
	for i := range d.below(17) {
		if i%2 == 0 {
			l = append(l, d.face(i))
		} else {
			l = append(l, d.class(i))
		}
	}
	for i := range l {
		k := d.below(len(l))
		l[i], l[k] = l[k], l[i]
	}
	return l
}

func (d *dice) face(i int) api.Class {
	f := face(faceAt(99 - 7*i)) // so that what stands above comes not first by name
	for k := 0; k < i && len(f.Impl) < 4; k += 2 {
		if d.below(3) == 0 {
			f.Impl = append(f.Impl, faceAt(99-7*k))
		}
	}
	for _, name := range []string{"a", "b", "c", "d"} {
		if d.below(3) == 0 {
			f = with(f, abstract(name, d.below(7)))
		}
	}
	return f
}

func (d *dice) class(i int) api.Class {
	c := cl(classAt(i), givenNames()[d.below(10)])
	if i > 1 && d.below(4) > 0 {
		c.Super = classAt(1 + 2*d.below(i/2))
	}
	if d.below(2) == 0 {
		c.Impl = []string{faceAt(99 - 7*(i-1))}
	}
	for _, name := range []string{"a", "b", "c", "$init", "d"} {
		switch how := d.below(6); {
		case how == 0 && name != "$init":
			c = with(c, own(name, d.below(17)))
		case how == 1:
			c = with(c, static(name, d.below(17)))
		}
		if d.below(5) == 0 && name != "$init" {
			c = holding(c, api.Field{Name: name, Type: givenNames()[d.below(10)], Static: d.below(2) == 0})
		}
	}
	return c
}

func TestManySets(t *testing.T) {
	d := dice(8)
	for range 2000 {
		l := d.set()
		checkAll(t, l, append(classNames(l), "Zz"), []string{"a", "b", "c", "d", "e", "$init", ""})
	}
}
