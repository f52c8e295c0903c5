package closed_test

import (
	"fmt"
	"slices"
	"strings"
	"testing"

	"daguerre/api"
)

// line gives classes, each but the first of the one ahead of it, of which the texts give the members.
func line(members ...string) []api.Class {
	var l []api.Class
	super := "Object"
	for i, text := range members {
		name := fmt.Sprint("C", i)
		l = append(l, class(name+" "+super+": "+text))
		super = name
	}
	return l
}

// checkOrders holds Linked of the set as it stands, and turned round.
func checkOrders(t *testing.T, what string, l []api.Class, want api.Errno) {
	t.Helper()
	checkLinked(t, what, l, want)
	turned := slices.Clone(l)
	slices.Reverse(turned)
	checkLinked(t, what+", turned round", turned, want)
	for i := range l {
		checkLinked(t, what+", going round", append(slices.Clone(l[i:]), l[:i]...), want)
	}
}

func TestWrittenAnew(t *testing.T) {
	for _, x := range []struct {
		above, below string
		want         api.Errno
	}{
		{"f", "f", api.OK}, {"f I > I", "f I > I", api.OK}, {"f I C0 [I > [[C0", "f I C0 [I > [[C0", api.OK}, {"f", "g", api.OK}, {"f", "ff", api.OK}, {"f", "", api.OK},
		{"f I", "f", api.ErrForm}, {"f", "f I", api.ErrForm}, {"f I I", "f I", api.ErrForm}, {"f I", "f I I", api.ErrForm}, {"f I I I I I I", "f I I I I I", api.ErrForm},
		{"f I", "f [I", api.ErrForm}, {"f C0", "f Object", api.ErrForm}, {"f Object", "f C0", api.ErrForm}, {"f I C0", "f C0 I", api.ErrForm}, {"f I I I I I I", "f I I I I I C0", api.ErrForm},
		{"f > I", "f", api.ErrForm}, {"f", "f > I", api.ErrForm}, {"f > C0", "f > Object", api.ErrForm}, {"f > Object", "f > C0", api.ErrForm}, {"f I > I", "f I > [I", api.ErrForm},
		{"static f", "f", api.ErrForm}, {"f", "static f", api.ErrForm}, {"static f", "static f", api.ErrForm}, {"static f I", "static f", api.ErrForm}, {"static f", "static g", api.OK},
		{"static f I > I", "static f I > I", api.ErrForm}, {"f I > I", "static f I > I", api.ErrForm}, {"static f I > I", "f I > I", api.ErrForm}, {"static f I > I", "f", api.ErrForm},
		{"static $init", "static $init", api.OK}, {"static $init | f", "f | static $init", api.OK}, {"static $init", "f", api.OK},
		{"field f I", "f", api.OK}, {"f", "field f I", api.OK}, {"field f I", "field f C0", api.OK}, {"static field f I", "field f I", api.OK},
		{"g | f", "f | g", api.OK}, {"g | f", "f | g I", api.ErrForm}, {"g > I | f | h", "k | h I | g > I", api.ErrForm}, {"a | b | c | d | e | f | g | h", "h | g | f | e | d | c | b | a", api.OK},
		{"a | b | c | d | e | f | g | h", "h | g | f | e | d | c | b | a I", api.ErrForm}, {"a | b | c | d | e | f | g | h", "h > I | g | f | e | d | c | b | a", api.ErrForm},
	} {
		for _, between := range [][]string{nil, {""}, {"", "", ""}, {"q", "static p I", "q | static $init"}} {
			l := line(append(append([]string{x.above}, between...), x.below)...)
			checkOrders(t, x.above+" anew as "+x.below, l, x.want)
		}
	}
}

// Of three classes, each is held against each above it; those beside it are nobody's business.
func TestWrittenAnewFurtherUp(t *testing.T) {
	for _, x := range []struct {
		members string
		want    api.Errno
	}{
		{"f/f/f", api.OK}, {"f//f", api.OK}, {"f//f I", api.ErrForm}, {"f/f/f I", api.ErrForm}, {"f/f I/f I", api.ErrForm}, {"f I/f/f I", api.ErrForm}, {"f//static f", api.ErrForm}, {"static f//f", api.ErrForm},
		{"static $init//static $init", api.OK}, {"static $init/static $init/static $init", api.OK}, {"f/static $init/f", api.OK}, {"f/g/f > I", api.ErrForm}, {"/f/f I", api.ErrForm}, {"/f/g", api.OK}, {"f/f/", api.OK},
		{"f/g/h", api.OK}, {"f/g/h/g/f", api.OK}, {"f/g/h/g/f I", api.ErrForm}, {"f/g/h/static g/f", api.ErrForm}, {"static f/g/h/static k/static f", api.ErrForm},
	} {
		checkOrders(t, x.members, line(strings.Split(x.members, "/")...), x.want)
	}
	beside := set("Aa Object: f", "Bb Aa: f | g", "Cc Aa: g I | static h", "Dd Aa: static g > I | h I | f", "Ee Object: f I > I", "Kk Object: static f > Aa")
	checkOrders(t, "beside", beside, api.OK)
	given := set("Aa Err: f", "Err MathErr: f", "Be MathErr: f I", "Ce ClassErr: static f")
	checkOrders(t, "of the given classes", given, api.OK)
}

func TestFacesOfClasses(t *testing.T) {
	for _, x := range []struct {
		classes string
		want    api.Errno
	}{
		{"face Ff: f / Aa Object Ff: f", api.OK}, {"face Ff / Aa Object Ff", api.OK}, {"face Ff: f / Aa Object: f", api.OK}, {"face Ff: f / Aa Object", api.OK},
		{"face Ff: f / Aa Object Ff", api.ErrForm}, {"face Ff: f / Aa Object Ff: g", api.ErrForm}, {"face Ff: f / Aa Object Ff: field f I", api.ErrForm}, {"face Ff: f | g / Aa Object Ff: f", api.ErrForm}, {"face Ff: f | g / Aa Object Ff: g", api.ErrForm}, {"face Ff: f | g / Aa Object Ff: g | f", api.OK},
		{"face Ff: f / Aa Object Ff: f I", api.ErrForm}, {"face Ff: f I / Aa Object Ff: f", api.ErrForm}, {"face Ff: f > I / Aa Object Ff: f", api.ErrForm}, {"face Ff: f > Object / Aa Object Ff: f > Aa", api.ErrForm}, {"face Ff: f Aa / Aa Object Ff: f Object", api.ErrForm}, {"face Ff: f Aa > Aa / Aa Object Ff: f Aa > Aa", api.OK},
		{"face Ff: f / Aa Object Ff: static f", api.ErrForm}, {"face Ff: f / Aa Object Ff: static $init | f", api.OK},
		// From above: as it stands there, and where the interface is that of the class above.
		{"face Ff: f / Aa Object: f / Bb Aa Ff", api.OK}, {"face Ff: f / Aa Object: f / Bb Aa / Cc Bb Ff", api.OK}, {"face Ff: f I / Aa Object: f / Bb Aa Ff", api.ErrForm}, {"face Ff: f / Aa Object: static f / Bb Aa Ff", api.ErrForm}, {"face Ff: f / Aa Object / Bb Aa Ff / Cc Bb: f", api.ErrForm},
		{"face Ff: f / Aa Object Ff: f / Bb Aa", api.OK}, {"face Ff: f / Aa Object Ff: f / Bb Aa: f", api.OK}, {"face Ff: f / Aa Object Ff: f / Bb Aa Ff: g", api.OK}, {"face Ff: f / Aa Object Ff / Bb Aa: f", api.ErrForm}, {"face Ff: f / Aa MathErr: f / Bb Aa Ff", api.OK}, {"face Ff: f / Aa Thrown Ff", api.ErrForm},
		// Above the interface.
		{"face Ff: f / face Gg Ff / Aa Object Gg: f", api.OK}, {"face Ff: f / face Gg Ff / Aa Object Gg", api.ErrForm}, {"face Ff: f / face Gg Ff / face Hh Gg / Aa Object Hh", api.ErrForm}, {"face Ff: f / face Gg Ff / face Hh Gg / Aa Object Hh: f", api.OK}, {"face Ff: f / face Gg Ff: g / Aa Object Gg: g", api.ErrForm}, {"face Ff: f / face Gg Ff: g / Aa Object Gg: f", api.ErrForm}, {"face Ff: f / face Gg Ff: g / Aa Object Gg: f | g", api.OK},
		{"face Ff: f / face Gg Ff: f / Aa Object Gg: f", api.OK}, {"face Ff: f I / face Gg Ff / Aa Object: f I / Bb Aa Gg", api.OK}, {"face Ff: f I / face Gg Ff / Aa Object: f / Bb Aa Gg", api.ErrForm}, {"face Ff: f / face Gg Ff / Aa Object Ff: f / Bb Aa Gg", api.OK},
		// More than one.
		{"face Ff: f / face Gg: g / Aa Object Ff Gg: f | g", api.OK}, {"face Ff: f / face Gg: g / Aa Object Ff Gg: f", api.ErrForm}, {"face Ff: f / face Gg: g / Aa Object Gg Ff: g", api.ErrForm}, {"face Ff: f / face Gg: g / Aa Object Ff: f / Bb Aa Gg: g", api.OK}, {"face Ff: f / face Gg: g / Aa Object Ff: f / Bb Aa Gg", api.ErrForm},
		{"face Ff: f / face Gg: f / Aa Object Ff Gg: f", api.OK}, {"face Ff: f / face Gg: f / Aa Object Ff Gg", api.ErrForm}, {"face Ff: f / Aa Object: f I / Bb Object Ff: f", api.OK},
	} {
		checkOrders(t, x.classes, set(strings.Split(x.classes, " / ")...), x.want)
	}
}

// Two Faces of one class or interface that have one name. (Where they are not Alike, no class has both.)
func TestTwoFaces(t *testing.T) {
	for _, x := range []struct {
		classes string
		want    api.Errno
	}{
		{"face Ff: f / face Gg: f I", api.OK}, {"face Ff: f / face Gg: f I / Aa Object Ff: f / Bb Object Gg: f I", api.OK}, {"face Ff: f / face Gg: f I / face Hh Ff / face Kk Gg", api.OK},
		{"face Ff: f / face Gg: f I / Aa Object Ff Gg: f", api.ErrForm}, {"face Ff: f / face Gg: f I / Aa Object Gg Ff: f I", api.ErrForm}, {"face Ff: f / face Gg: f I / Aa Object Ff: f / Bb Aa Gg", api.ErrForm}, {"face Ff: f / face Gg: f > I / Aa Object Ff Gg", api.ErrForm},
		{"face Ff: f / face Gg: f I / face Hh Ff Gg", api.ErrForm}, {"face Ff: f / face Gg: f > I / face Hh Gg Ff", api.ErrForm}, {"face Ff: f / face Gg: f / face Hh Ff Gg", api.OK}, {"face Ff: f / face Gg: g I / face Hh Ff Gg", api.OK}, {"face Ff: f / face Gg: f I I / face Hh Ff Gg: f", api.ErrForm},
		{"face Ff: f / face Gg Ff: f", api.OK}, {"face Ff: f / face Gg Ff: f I", api.ErrForm}, {"face Ff: f > Ff / face Gg Ff: f > Gg", api.ErrForm}, {"face Ff: f Gg / face Gg Ff: f Ff", api.ErrForm}, {"face Ff: f / face Gg Ff / face Hh Gg: f I", api.ErrForm}, {"face Ff: f / face Gg Ff / face Hh Gg: f", api.OK},
		{"face Ff: f / face Gg: f I / face Hh Ff / face Kk Gg / face Mm Hh Kk", api.ErrForm}, {"face Ff: f / face Gg: f / face Hh Ff / face Kk Gg / face Mm Hh Kk", api.OK}, {"face Ff: f / face Gg Ff / face Hh Ff / face Kk Gg Hh", api.OK},
		{"face Ab: f / face Bc: f / face Cd: f I / face De Ab Bc Cd", api.ErrForm}, {"face Ab: f I / face Bc: f / face Cd: f / face De Ab Bc Cd", api.ErrForm}, {"face Ab: f / face Bc: f I / face Cd: f / face De Ab Bc Cd", api.ErrForm}, {"face Ab: f / face Bc: g / face Cd: f I / face De Ab Bc Cd", api.ErrForm}, {"face Ab: f / face Bc: g / face Cd: f / face De Ab Bc Cd: g", api.OK},
		{"face Ab: g | f / face Bc: f | g I / face Cd Ab Bc", api.ErrForm}, {"face Ab: g I | f / face Bc: f | g I / face Cd Ab Bc", api.OK}, {"face Zz: f I / face Ab Zz: f", api.ErrForm}, {"face Ab: f I / face Zz Ab: f", api.ErrForm},
	} {
		checkOrders(t, x.classes, set(strings.Split(x.classes, " / ")...), x.want)
	}
}

// Whatever stands ahead of it or behind, what is wrong is found.
func TestAgreeInEachClass(t *testing.T) {
	for _, bad := range []string{"Xx Cc: f I", "Xx Aa: static s", "Xx Bb: static f I > I", "Xx Aa Gg: f", "Xx Object Ff: f I > I", "face Xx Ff: f > I", "Xx Err: j", "Xx Ee: static main", "Xx Ee: do > I"} {
		for i := range len(world()) + 1 {
			l := slices.Insert(world(), i, class(bad))
			checkLinked(t, bad, l, api.ErrForm)
		}
	}
	for _, good := range []string{"Xx Cc: f I > I", "Xx Aa: s2", "Xx Bb: static $init", "Xx Aa Gg: f I > I", "Xx Object Ff: f I > I | g > [Cc", "face Xx Ff: f I > I", "Xx Err: j > I", "Xx Ee: do | next"} {
		for i := range len(world()) + 1 {
			l := slices.Insert(world(), i, class(good))
			checkLinked(t, good, l, api.OK)
			check(t, good, l, main(), api.OK)
		}
	}
}
