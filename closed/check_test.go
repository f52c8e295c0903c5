package closed_test

import (
	"fmt"
	"slices"
	"strings"
	"testing"

	"daguerre/api"
	"daguerre/closed"
	"daguerre/hier"
)

// Each error of hier.New is Check's, whatever else is wrong: these sets lack types, agree in nothing, and may not run.
func TestErrorsOfNew(t *testing.T) {
	wrong := "field x Zz | f I = pop; ret | static g = gets Zz z; ret"
	with := func(n int, more ...string) []api.Class {
		l := set("Aa Object: "+wrong, "Bb Aa: f", "face Ff: f > Zz")
		for i := range n {
			l = append(l, class(fmt.Sprintf("C%d Bb Ff: f > I", i)))
		}
		return append(l, set(more...)...)
	}
	tooManyMethods := class("Xx Object: a | b | c | d | e | f | g | h | i")
	for i, x := range []struct {
		l    []api.Class
		want api.Errno
	}{
		{with(13, "Xx Object"), api.ErrLimit}, {with(30), api.ErrLimit}, {with(1000), api.ErrLimit}, {with(14, "Object Object"), api.ErrLimit}, {with(14, "Xx Zz"), api.ErrLimit},
		{with(0, "Object Object"), api.ErrForm}, {with(0, "ClassErr Thrown"), api.ErrForm}, {with(0, "Aa Object"), api.ErrForm}, {with(0, "Xx Object", "Xx Zz"), api.ErrForm}, {with(0, "x Object"), api.ErrForm}, {with(0, "Xx Zz", "Thrown Object"), api.ErrForm},
		{with(0, "Xx Object: f | f"), api.ErrForm}, {with(0, "Xx Object: static $init I"), api.ErrForm}, {with(0, "Xx Object: f = const"), api.ErrForm}, {append(with(0), tooManyMethods), api.ErrForm}, {with(0, "Xx Object: f = getf Aa $init; pop; ret"), api.ErrForm}, {with(0, "Xx Object: f Z"), api.ErrForm},
		{with(0, "Xx Zz"), api.ErrMissing}, {with(0, "Xx Object Zz"), api.ErrMissing}, {with(0, "face Xx Zz"), api.ErrMissing}, {with(0, "Xx Ff", "Yy Zz"), api.ErrMissing},
		{with(0, "Xx Ff"), api.ErrForm}, {with(0, "Xx Aa Bb"), api.ErrForm}, {with(0, "face Xx Aa"), api.ErrForm}, {with(0, "Xx Xx"), api.ErrForm}, {with(0, "Xx Yy", "Yy Xx"), api.ErrForm}, {with(0, "face Xx Yy", "face Yy Xx"), api.ErrForm},
		{with(0), api.ErrMissing}, {with(13), api.ErrMissing},
	} {
		for _, e := range []api.Entry{{}, {C: "Aa", M: "g"}, {C: "Zz", M: "z"}} {
			check(t, fmt.Sprint("set ", i), x.l, e, x.want)
		}
	}
}

// A fault is one thing that is wrong in world, or with the entry.
type fault struct {
	want api.Errno
	put  func(l []api.Class, e *api.Entry) []api.Class
}

// faults stand in the order in which Check is to tell them.
func faults() []fault {
	inClass := func(name, member string) func(l []api.Class, e *api.Entry) []api.Class {
		return func(l []api.Class, e *api.Entry) []api.Class {
			addMember(at(l, name), member)
			return l
		}
	}
	behind := func(texts ...string) func(l []api.Class, e *api.Entry) []api.Class {
		return func(l []api.Class, e *api.Entry) []api.Class { return append(l, set(texts...)...) }
	}
	return []fault{
		{api.ErrLimit, behind("Xa Object", "Xb Object", "Xc Object", "Xd Object", "Xe Object", "Xf Object", "Xg Object", "Xh Object", "Xi Object")},
		{api.ErrForm, behind("Thrown Object")},
		{api.ErrMissing, behind("Xj Zz")},
		{api.ErrForm, behind("Xk Xk")},
		{api.ErrMissing, inClass("Bb", "x = gets Aa i; gets Aa q; ret")},
		{api.ErrForm, inClass("Cc", "j > I")},
		{api.ErrMissing, func(l []api.Class, e *api.Entry) []api.Class { e.M = "do"; return l }},
		{api.ErrVerify, inClass("Cc", "static wrong = pop; ret")},
	}
}

// All sets of the faults: the first of them is told.
func TestFirstFaultIsTold(t *testing.T) {
	list := faults()
	for n := range 1 << len(list) {
		l, e, want := world(), main(), api.OK
		for i, f := range list {
			if n>>i&1 == 1 {
				l = f.put(l, &e)
				if want == api.OK {
					want = f.want
				}
			}
		}
		check(t, fmt.Sprintf("faults %08b", n), l, e, want)
	}
}

// ErrMissing of each class is told ahead of ErrForm of any.
func TestMissingAheadOfForm(t *testing.T) {
	for i := range world() {
		for k := range world() {
			for _, form := range []string{"Xx Aa: f", "face Xx Ff: g", "Xx Object Hh", "Xx Ee: static main"} {
				l := world()
				member := "field x Zz"
				if l[i].Interface {
					member = "x > Zz"
				}
				addMember(&l[i], member)
				checkLinked(t, member+" of "+l[i].Name+" and "+form, slices.Insert(l, k, class(form)), api.ErrMissing)
				checkLinked(t, form, slices.Insert(world(), k, class(form)), api.ErrForm)
			}
		}
	}
}

func TestEntries(t *testing.T) {
	want := map[string]api.Errno{"Ee main": api.OK, "Ee e": api.OK, "Aa s": api.OK, "Bb s": api.OK, "Cc s": api.OK}
	names := []string{"main", "s", "e", "f", "g", "h", "i", "n", "do", "twice", "give", "next", "k", "$init", "q", "", "mai", "mainn", "Main", "MAIN", " main", "main ", "main\x00", "s2", "V", "I"}
	classes := append(classNames(), "Zz", "", "AA", "aa", "Aa ", "E", "Eee", "[Ee", "[[Aa", "I", "V", "N", "T", strings.Repeat("A", 5000))
	for _, c := range classes {
		for _, m := range append(names, strings.Repeat("s", 5000)) {
			err, ok := want[c+" "+m]
			if !ok {
				err = api.ErrMissing
			}
			check(t, fmt.Sprintf("%.20q %.20q", c, m), world(), api.Entry{C: c, M: m}, err)
		}
	}
	check(t, "zero", world(), api.Entry{}, api.ErrMissing)
}

// What an entry may be: each thing that it may not have, by itself and together.
func TestWhatAnEntryMayBe(t *testing.T) {
	for member, want := range map[string]api.Errno{
		"static x": api.OK, "static x = ret": api.OK, "static x = const; exit": api.OK, "x": api.ErrMissing, "static x I": api.ErrMissing, "static x Aa": api.ErrMissing, "static x I I I I I I": api.ErrMissing,
		"static x > I": api.ErrMissing, "static x > Aa": api.ErrMissing, "static x > [I": api.ErrMissing, "x I": api.ErrMissing, "x > I": api.ErrMissing, "static x I > I": api.ErrMissing, "x I > I": api.ErrMissing,
		"field x I": api.ErrMissing, "static field x I": api.ErrMissing, "static y": api.ErrMissing,
	} {
		check(t, member, with("Aa", member), api.Entry{C: "Aa", M: "x"}, want)
		check(t, member+", from below", with("Aa", member), api.Entry{C: "Cc", M: "x"}, want)
		check(t, member+", from above", with("Bb", member), api.Entry{C: "Aa", M: "x"}, api.ErrMissing)
		check(t, member+", from beside", with("Bb", member), api.Entry{C: "Ee", M: "x"}, api.ErrMissing)
	}
	for _, member := range []string{"x", "x I", "x > I"} {
		l := lonely()
		addMember(at(l, "Kk"), member)
		check(t, member+" of an interface", l, api.Entry{C: "Kk", M: "x"}, api.ErrMissing)
	}
	check(t, "$init", world(), api.Entry{C: "Aa", M: "$init"}, api.ErrMissing)
	check(t, "$init alone", set("Aa Object: static $init"), api.Entry{C: "Aa", M: "$init"}, api.ErrMissing)
	check(t, "main", set("Aa Object: static main"), api.Entry{C: "Aa", M: "main"}, api.OK)
	check(t, "main of a class that is thrown", set("Aa ClassErr: static main"), api.Entry{C: "Aa", M: "main"}, api.OK)
}

// The nearest method of that name is the entry, whatever stands above it. (Static ones may not stand twice.)
func TestEntryFromAbove(t *testing.T) {
	for i := range 5 {
		l := line("static x", "field x I", "static $init", "", "static y")
		check(t, "x", l, api.Entry{C: fmt.Sprint("C", i), M: "x"}, api.OK)
		want := api.ErrMissing
		if i == 4 {
			want = api.OK
		}
		check(t, "y", l, api.Entry{C: fmt.Sprint("C", i), M: "y"}, want)
	}
}

// A method that may not run is found in each class, at each place, whether something calls it or not.
func TestMethodsThatMayNotRun(t *testing.T) {
	for i, c := range world() {
		if c.Interface {
			continue
		}
		for place := range len(c.Methods) + 1 {
			for _, text := range []string{"x = pop; ret", "static x = ret; ret", "static x > I = ret", "x Aa > I = load 1; iret", "x = const; throw"} {
				l := world()
				l[i].Methods = slices.Insert(l[i].Methods, place, class("Xx Object: " + text).Methods[0])
				checkLinked(t, text, l, api.OK)
				check(t, text+" in "+c.Name, l, main(), api.ErrVerify)
				for _, m := range []string{"main", "e"} {
					check(t, text+" in "+c.Name, l, api.Entry{C: "Ee", M: m}, api.ErrVerify)
				}
			}
			l := world()
			l[i].Methods = slices.Insert(l[i].Methods, place, class("Xx Object: x = ret").Methods[0])
			check(t, "ret in "+c.Name, l, main(), api.OK)
		}
	}
	check(t, "an initialiser", set("Aa Object: static main", "Bb Object: static $init = pop; ret"), api.Entry{C: "Aa", M: "main"}, api.ErrVerify)
	check(t, "the entry", set("Aa Object: static main = pop; ret"), api.Entry{C: "Aa", M: "main"}, api.ErrVerify)
	check(t, "one of eight", set("Aa Object: static main", "Bb Object: a | b | c | d | e | f | g | h = pop; ret"), api.Entry{C: "Aa", M: "main"}, api.ErrVerify)
}

// An abstract method has nothing that could run.
func TestAbstractMethodsNeedNotRun(t *testing.T) {
	l := set("face Ff: a | b I > I | c Aa > Aa", "Aa Object: static main", "face Gg Ff: d | a")
	check(t, "interfaces", l, api.Entry{C: "Aa", M: "main"}, api.OK)
	slices.Reverse(l)
	check(t, "interfaces, turned round", l, api.Entry{C: "Aa", M: "main"}, api.OK)
}

func TestNoClasses(t *testing.T) {
	for _, l := range [][]api.Class{nil, {}} {
		for _, e := range []api.Entry{{}, {C: "Object", M: "main"}, main(), {C: "Thrown", M: "$init"}} {
			check(t, "no classes", l, e, api.ErrMissing)
		}
		if got := closed.Linked(mustNew(t, l)); got != api.OK {
			t.Errorf("Linked of the given classes alone = %v", got)
		}
	}
	for _, h := range []*hier.Hier{nil, {}} {
		if got := closed.Linked(h); got != api.OK {
			t.Errorf("Linked of no classes = %v", got)
		}
	}
}

// many gives n classes, each of the one ahead, with an interface that each has anew, and as many members as may be.
func many(n int) []api.Class {
	var l []api.Class
	super := "Object"
	for i := range n {
		var text strings.Builder
		name := fmt.Sprint("C", i)
		impl := ""
		if i > 0 {
			impl = "C0"
		}
		fmt.Fprintf(&text, "%s %s %s: f I > I | g C%d > [C%d", name, super, impl, n-1, n/2)
		if i == 0 {
			text.Reset()
			fmt.Fprintf(&text, "face C0: f I > I | g C%d > [C%d", n-1, n/2)
		}
		for k := range api.MaxMethods - 2 {
			if i > 0 {
				fmt.Fprintf(&text, " | static m%dx%d = gets C%d a; pop; calls C%d m5x1; calls C%d m%dx%d; ret", k, i, n-1, n-1, i, k, i)
			}
		}
		for k := range api.MaxFields {
			if i > 0 {
				fmt.Fprintf(&text, " | static field %c [[C%d", 'a'+k, k%n)
			}
		}
		l = append(l, class(text.String()))
		if i > 0 {
			super = name
		}
	}
	return l
}

func TestManyClasses(t *testing.T) {
	for _, n := range []int{2, 9, api.MaxClasses} {
		last := fmt.Sprint("C", n-1)
		for k := range api.MaxMethods - 2 {
			check(t, fmt.Sprint(n, " classes"), many(n), api.Entry{C: last, M: fmt.Sprintf("m%dx%d", k, n-1)}, api.OK)
			check(t, fmt.Sprint(n, " classes"), many(n), api.Entry{C: last, M: fmt.Sprintf("m%dx%d", k, 1)}, api.OK)
			check(t, fmt.Sprint(n, " classes"), many(n), api.Entry{C: last, M: fmt.Sprintf("m%dx%d", k, 0)}, api.ErrMissing)
		}
		l := many(n)
		at(l, last).Methods[0].Params = nil
		check(t, "the last one", l, api.Entry{C: last, M: "m0x1"}, api.ErrForm)
		l = many(n)
		at(l, last).Fields[7].Type = "Zz"
		check(t, "the last one", l, api.Entry{C: last, M: "m0x1"}, api.ErrMissing)
		l = many(n)
		at(l, last).Methods[7].Code[1] = ins("neg")
		check(t, "the last one", l, api.Entry{C: last, M: "m0x1"}, api.ErrVerify)
	}
	for _, n := range []int{api.MaxClasses + 1, 100} {
		check(t, "too many", many(n), api.Entry{C: "C1", M: "m0x1"}, api.ErrLimit)
	}
	check(t, "the same twice", append(many(8), many(8)...), api.Entry{C: "C1", M: "m0x1"}, api.ErrForm)
	check(t, "one twice", append(many(8), many(8)[3]), api.Entry{C: "C1", M: "m0x1"}, api.ErrForm)
	check(t, "turned round", slices.Collect(backward(many(16))), api.Entry{C: "C9", M: "m0x3"}, api.OK)
}

func backward(l []api.Class) func(yield func(api.Class) bool) {
	return func(yield func(api.Class) bool) {
		for _, c := range slices.Backward(l) {
			if !yield(c) {
				return
			}
		}
	}
}
