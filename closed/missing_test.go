package closed_test

import (
	"fmt"
	"slices"
	"strings"
	"testing"

	"daguerre/api"
)

func TestWorld(t *testing.T) {
	checkLinked(t, "world", world(), api.OK)
	check(t, "world", world(), main(), api.OK)
}

// gone are types that may be, but are not there.
func gone() []string {
	return []string{"Zz", "Objec", "Object2", "OBJECT", "AA", "Aaa", "Ab", "Bbb", "Vv", "Ii", "Erro", "Thrown1", "NullErr2"}
}

func classNames() []string {
	list := givenNames()
	for _, c := range world() {
		list = append(list, c.Name)
	}
	return list
}

func arraysOf(list []string) []string {
	var all []string
	for _, s := range list {
		all = append(all, "["+s, "[["+s)
	}
	return all
}

// typePlaces are members that name a type at the place of the sign ?, each for a class or for an interface.
func typePlaces() map[string][]string {
	return map[string][]string{
		"class": {
			"field x ?", "static field x ?",
			"x ?", "x ? I I I I I", "x I Aa [I ? I [[Bb", "x I I I I I ?", "static x ?", "static x I I I I I ?", "static x ? > I",
			"x > ?", "static x > ?", "x I Aa > ?", "x ? > ?",
			"x = null; cast ?; pop; ret", "x = null; inst ?; pop; ret", "x = const; newa ?; pop; ret", "static x = goto 3; null; inst ?; null; throw", "static x = ret; null; cast ?; aret",
		},
		"face": {"x ?", "x I I I I I ?", "x ? I I I I I", "x > ?", "x I > ?", "x Aa ? > ?"},
	}
}

// lonely gives world and an interface that no class has.
func lonely() []api.Class { return append(world(), class("face Kk Ff")) }

// withType gives lonely with the member in that class.
func withType(c, member, typ string) []api.Class {
	l := lonely()
	addMember(at(l, c), strings.ReplaceAll(member, "?", typ))
	return l
}

func checkTypes(t *testing.T, c, member string, there, missing []string) {
	t.Helper()
	for _, typ := range there {
		checkLinked(t, fmt.Sprintf("%s of %s with %s", member, c, typ), withType(c, member, typ), api.OK)
	}
	for _, typ := range missing {
		checkLinked(t, fmt.Sprintf("%s of %s with %s", member, c, typ), withType(c, member, typ), api.ErrMissing)
	}
}

func TestTypes(t *testing.T) {
	there, missing := append(classNames(), "[I", "[[I", "Kk", "[Kk"), append(gone(), arraysOf(gone()[:3])...)
	there = append(there, arraysOf([]string{"Object", "ClassErr", "Cc", "Gg"})...)
	for _, c := range []string{"Cc", "Err"} {
		for _, member := range typePlaces()["class"] {
			checkTypes(t, c, member, there, missing)
		}
	}
	for _, member := range typePlaces()["face"] {
		checkTypes(t, "Kk", member, there, missing)
	}
	for _, member := range []string{"field x ?", "static field x ?", "x ?", "static x I ?", "x > ?", "x ? > ?"} {
		checkTypes(t, "Ee", member, []string{"I"}, nil)
	}
	checkTypes(t, "Kk", "x ? > ?", []string{"I"}, nil)
}

// Each place of a type is asked, also where another type of the same member is there.
func TestTypesBesideOthers(t *testing.T) {
	for _, want := range []struct {
		member string
		err    api.Errno
	}{
		{"x Aa > Bb", api.OK}, {"x Zz > Bb", api.ErrMissing}, {"x Aa > Zz", api.ErrMissing}, {"x Aa Zz Aa > Aa", api.ErrMissing}, {"x [I [[Zz", api.ErrMissing},
		{"x = null; inst Aa; null; inst Zz; exit", api.ErrMissing}, {"x = null; inst Zz; null; inst Aa; exit", api.ErrMissing}, {"x = null; inst Aa; null; inst Bb; exit", api.OK},
		{"x = new Aa; pop; new Zz; pop; ret", api.ErrMissing}, {"x = new Zz; pop; new Aa; pop; ret", api.ErrMissing},
	} {
		checkLinked(t, want.member, with("Aa", want.member), want.err)
	}
	for i, want := range []api.Errno{api.OK, api.ErrMissing, api.ErrMissing, api.ErrMissing} {
		l := with("Cc", "field x [Aa")
		addMember(at(l, "Cc"), "field y Aa")
		addMember(at(l, "Cc"), "field z I")
		if i > 0 {
			at(l, "Cc").Fields[i-1].Type = "Zz"
		}
		checkLinked(t, fmt.Sprint("field ", i), l, want)
	}
}

func TestNew(t *testing.T) {
	for _, c := range classNames() {
		checkLinked(t, "new "+c, with("Ee", "x = new "+c+"; pop; ret"), api.OK)
		want := api.OK
		if slices.Contains([]string{"Ff", "Gg", "Hh"}, c) {
			want = api.ErrVerify
		}
		check(t, "new "+c, with("Ee", "x = new "+c+"; pop; ret"), main(), want)
	}
	for _, c := range gone() {
		checkLinked(t, "new "+c, with("Ee", "x = new "+c+"; pop; ret"), api.ErrMissing)
		checkLinked(t, "new "+c, with("Ee", "x = ret; new "+c+"; aret"), api.ErrMissing)
	}
}

// An array of arrays of arrays may not be; its elements' type is there all the same.
func TestNewOfArrays(t *testing.T) {
	for _, x := range []struct {
		typ  string
		want api.Errno
	}{{"Aa", api.OK}, {"[I", api.OK}, {"[Aa", api.OK}, {"[[I", api.ErrVerify}, {"[[Aa", api.ErrVerify}, {"[[Zz", api.ErrMissing}} {
		l := with("Ee", "x = const; newa "+x.typ+"; pop; ret")
		check(t, x.typ, l, main(), x.want)
		if x.want != api.ErrMissing {
			checkLinked(t, x.typ, l, api.OK)
		}
	}
}

// trapped gives world with a method of Bb, all of which stands in these Traps.
func trapped(classes ...string) []api.Class {
	l := with("Bb", "x = null; pop; ret; throw")
	m := &at(l, "Bb").Methods[4]
	m.Maps = []api.Map{{At: 3, Locals: []string{"Bb", "T"}, Stack: []string{"Thrown"}}}
	for _, c := range classes {
		m.Traps = append(m.Traps, api.Trap{From: 0, To: 4, At: 3, C: c})
	}
	return l
}

func TestTraps(t *testing.T) {
	for _, x := range []struct {
		classes string
		want    api.Errno
	}{
		{"", api.OK}, {"Thrown", api.OK}, {"Err", api.OK}, {"ClassErr", api.OK}, {"Err,,MathErr", api.OK}, {",,,,,", api.OK},
		{"Zz", api.ErrMissing}, {"Er", api.ErrMissing}, {"Thrown,Zz", api.ErrMissing}, {"Zz,Thrown", api.ErrMissing}, {",Zz", api.ErrMissing}, {"Err,,,,,Zz", api.ErrMissing},
		{"Aa", api.ErrVerify}, {"Object", api.ErrVerify}, {"Ff", api.ErrVerify}, {",Bb", api.ErrVerify}, {"Aa,Zz", api.ErrMissing},
	} {
		l := trapped(strings.Split(x.classes, ",")...)
		check(t, "Traps "+x.classes, l, main(), x.want)
		linked := x.want
		if linked == api.ErrVerify {
			linked = api.OK
		}
		checkLinked(t, "Traps "+x.classes, l, linked)
	}
	for _, c := range gone() {
		checkLinked(t, "Trap "+c, trapped(c), api.ErrMissing)
	}
}

// What a Map names is asked by the verifier alone, also where nothing comes to it.
func TestMaps(t *testing.T) {
	for _, x := range []struct {
		locals, stack string
		want          api.Errno
	}{
		{"Bb T", "Thrown", api.OK}, {"T T", "Thrown", api.OK}, {"Aa Zz", "Thrown", api.ErrVerify}, {"Zz T", "Thrown", api.ErrVerify}, {"Bb T", "Zz", api.ErrVerify}, {"[Zz T", "Thrown", api.ErrVerify}, {"Bb T", "[[Zz", api.ErrVerify},
	} {
		for _, classes := range [][]string{nil, {""}, {"Err"}} {
			l := trapped(classes...)
			m := &at(l, "Bb").Methods[4]
			m.Maps[0].Locals, m.Maps[0].Stack = strings.Fields(x.locals), strings.Fields(x.stack)
			check(t, x.locals+" / "+x.stack, l, main(), x.want)
			checkLinked(t, x.locals+" / "+x.stack, l, api.OK)
		}
	}
}

// named gives what an instruction names, and whether that is there: of each of those that do the same.
type named struct {
	ops, there, missing string
}

func namings() []named {
	return []named{
		{
			"getf putf gets puts",
			"Aa i, Aa arr, Aa n, Aa o, Bb i, Bb b, Bb arr, Bb n, Bb o, Cc i, Cc b, Cc arr, Cc n, Ee next, Err at",
			"Aa b, Aa next, Aa at, Aa q, Aa f, Aa s, Aa ii, Bb f, Bb main, Cc h, Cc c, Ee i, Ee main, Ee n, Err i, Err code, MathErr at, Object i, Object n, Thrown at, Ff i, Ff f, Gg n, Hh next, Zz i, Zz n, Zz q, AA i",
		},
		{
			"calls callv callx",
			"Aa f, Aa g, Aa s, Bb f, Bb g, Bb j, Bb s, Cc f, Cc g, Cc h, Cc j, Cc k, Cc s, Ee main, Ee do, Ee twice, Ee give, Ee e, Err j",
			"Aa h, Aa j, Aa k, Aa do, Aa main, Aa q, Aa i, Aa n, Aa b, Aa ff, Bb h, Bb k, Bb b, Cc do, Cc q, Ee f, Ee s, Ee j, Ee next, Err f, Err at, Object f, Object s, MathErr j, Thrown j, Ff f, Ff g, Gg f, Gg g, Hh h, Hh f, Hh s, Zz f, Zz s, Zz q, AA f",
		},
		{
			"calli",
			"Ff f, Ff g, Gg f, Gg g, Hh f, Hh g, Hh h",
			"Ff h, Gg h, Ff s, Ff j, Ff q, Ff i, Gg do, Gg n, Hh k, Hh j, Hh s, Hh q, Aa f, Aa g, Aa s, Bb f, Bb g, Bb j, Cc f, Cc g, Cc h, Ee do, Err j, Object f, Thrown f, Zz f, Zz h, Zz q, AA f",
		},
	}
}

func TestMembers(t *testing.T) {
	for _, x := range namings() {
		for _, op := range strings.Fields(x.ops) {
			for _, form := range []string{"static x = ?; ret", "x I Ff > Aa = ?; aret", "x = ret; ?; ret", "static x = goto 2; ?; ret", "x = gets Aa n; pop; ?; ret"} {
				for _, what := range strings.Split(x.there, ",") {
					l := with("Ee", strings.ReplaceAll(form, "?", op+" "+what))
					checkLinked(t, op+what, l, api.OK)
				}
				for _, what := range strings.Split(x.missing, ",") {
					l := with("Ee", strings.ReplaceAll(form, "?", op+" "+what))
					checkLinked(t, op+what, l, api.ErrMissing)
				}
			}
		}
	}
}

// Linked asks whether a member is there; whether it is static as the instruction wants it, and what stands on the stack, the verifier does.
func TestMembersThatTheVerifierRefuses(t *testing.T) {
	for text, want := range map[string]api.Errno{
		"gets Aa n; pop; ret": api.OK, "gets Aa i; pop; ret": api.ErrVerify, "const; puts Aa n; ret": api.OK, "null; puts Aa n; ret": api.ErrVerify, "puts Aa n; ret": api.ErrVerify,
		"new Aa; getf Aa i; pop; ret": api.OK, "new Aa; getf Aa n; pop; ret": api.ErrVerify, "getf Aa i; pop; ret": api.ErrVerify, "new Bb; const; putf Aa i; ret": api.OK, "new Bb; const; putf Bb i; ret": api.ErrVerify,
		"calls Cc s; ret": api.OK, "calls Aa f; ret": api.ErrVerify, "new Aa; const; callv Aa f; pop; ret": api.OK, "new Aa; callv Aa s; ret": api.ErrVerify, "const; callv Aa f; pop; ret": api.ErrVerify,
		"new Aa; const; callx Aa f; pop; ret": api.ErrVerify, "new Ee; callx Ee do; ret": api.OK, "new Cc; const; calli Gg f; pop; ret": api.OK, "const; const; calli Gg f; pop; ret": api.ErrVerify, "null; calli Hh h; pop; ret": api.OK,
	} {
		l := with("Ee", "x = "+text)
		checkLinked(t, text, l, api.OK)
		check(t, text, l, main(), want)
	}
}

// The same names, each in another class: one of them that is not there is missed wherever it stands.
func TestMissingInEachClass(t *testing.T) {
	for i, c := range world() {
		members := []string{"field x Zz", "static x = calls Aa q; ret", "static x > [Zz", "static x Zz", "x = null; inst Zz; pop; ret", "x = load 0; callv Object f; ret"}
		if c.Interface {
			members = []string{"x Zz", "x > Zz"}
		}
		for _, member := range members {
			l := world()
			addMember(&l[i], member)
			checkLinked(t, member+" of "+c.Name, l, api.ErrMissing)
		}
	}
}
