package types_test

import (
	"slices"
	"strings"
	"testing"

	"daguerre/api"
	"daguerre/hier"
	"daguerre/types"
)

func TestThereWrittenOut(t *testing.T) {
	h := mustNew(t, world())
	for _, x := range []string{
		"I", "N", "T",
		"Object", "Thrown", "NullErr", "RangeErr", "MathErr", "CastErr", "SizeErr", "StoreErr", "InitErr", "ClassErr",
		"Aa", "Bb", "Cc", "Dd", "Ee", "BadErr", "Ff", "Gg", "Hh",
		"[I", "[[I", "[Object", "[[Object", "[MathErr", "[[ClassErr", "[Aa", "[[Aa", "[Dd", "[[Dd", "[BadErr", "[[BadErr", "[Ff", "[[Ff", "[Hh", "[[Hh",
	} {
		checkThere(t, h, x, true)
	}
	for _, x := range []string{
		"[[[I", "[[[Aa", "[[[Object", "[[[Ff", "[[[[I", "[[[[Aa",
		"[N", "[[N", "[[[N", "[T", "[[T", "[[[T", "[V", "[[V",
		"Zz", "[Zz", "[[Zz", "[[[Zz", "V", "",
	} {
		checkThere(t, h, x, false)
	}
	for _, x := range slices.Concat(strange(), notThere()) {
		checkThere(t, h, x, false)
	}
}

// Each type's line: it, and all that it fits, of the types of the lines.
const fitting = `
I: I T
N: N T Object MathErr Thrown BadErr Aa Bb Cc Dd Ee Ff Gg Hh [I [[I [Object [[Object [Aa [[Aa [Bb [[Bb [Dd [[Dd [Ff [[Ff [Gg [Hh [BadErr [Thrown
T: T
Object: Object T Ff Gg Hh
Thrown: Thrown Object T Ff Gg Hh
MathErr: MathErr Thrown Object T Ff Gg Hh
BadErr: BadErr MathErr Thrown Object T Ff Gg Hh
Aa: Aa Object T Ff Gg Hh
Bb: Bb Aa Object T Ff Gg Hh
Cc: Cc Bb Aa Object T Ff Gg Hh
Dd: Dd Cc Bb Aa Object T Ff Gg Hh
Ee: Ee Object T Ff Gg Hh
Ff: Ff Object T Gg Hh
Gg: Gg Ff Object T Hh
Hh: Hh Object T Ff Gg
[I: [I Object T Ff Gg Hh
[[I: [[I [Object Object T Ff Gg Hh
[Object: [Object Object T Ff Gg Hh
[[Object: [[Object [Object Object T Ff Gg Hh
[Aa: [Aa [Object Object T Ff Gg Hh
[[Aa: [[Aa [[Object [Object Object T Ff Gg Hh
[Bb: [Bb [Aa [Object Object T Ff Gg Hh
[[Bb: [[Bb [[Aa [[Object [Object Object T Ff Gg Hh
[Dd: [Dd [Bb [Aa [Gg [Ff [Object Object T Ff Gg Hh
[[Dd: [[Dd [[Bb [[Aa [[Ff [[Object [Object Object T Ff Gg Hh
[Ff: [Ff [Object Object T Ff Gg Hh
[[Ff: [[Ff [[Object [Object Object T Ff Gg Hh
[Gg: [Gg [Ff [Object Object T Ff Gg Hh
[Hh: [Hh [Object Object T Ff Gg Hh
[Thrown: [Thrown [Object Object T Ff Gg Hh
[BadErr: [BadErr [Thrown [Object Object T Ff Gg Hh
`

func TestFitsWrittenOut(t *testing.T) {
	h := mustNew(t, world())
	lines := strings.Split(strings.TrimSpace(fitting), "\n")
	for _, line := range lines {
		a, all, _ := strings.Cut(line, ": ")
		asked := strings.Fields(all)
		for _, other := range lines {
			b, _, _ := strings.Cut(other, ": ")
			checkFits(t, h, a, b, slices.Contains(asked, b))
		}
	}
}

// What is not there fits nothing, not even T or itself, and nothing fits it.
func TestFitsAsksForBoth(t *testing.T) {
	h := mustNew(t, world())
	there := append(arrays(slices.Concat([]string{"I"}, givenNames(), classNames(world())), 2), "N", "T")
	for _, none := range slices.Concat(strange(), notThere()) {
		checkFits(t, h, none, none, false)
		checkFits(t, h, none, "Zz", false)
		for _, x := range there {
			checkFits(t, h, none, x, false)
			checkFits(t, h, x, none, false)
		}
	}
	for _, x := range there {
		checkFits(t, h, x, x, true)
		checkFits(t, h, x, "T", true)
	}
}

func TestFitsEachPairOfWorld(t *testing.T) {
	inner := slices.Concat([]string{"I", "N", "T", "V", "", "Zz", "Room"}, givenNames(), classNames(world()))
	checkSet(t, world(), arrays(inner, 3))
}

// Names that are near to those of the types that no class may have.
func TestNearNames(t *testing.T) {
	l := []api.Class{cl("Ii", "Object"), cl("Nn", "Ii"), face("Tt"), cl("N1", "Object", "Tt"), cl("TN", "Nn"), cl("I0", "TN"), face("NullNull")}
	checkSet(t, l, arrays(append([]string{"I", "N", "T", "V", "NullNul", "nn", "tt"}, classNames(l)...), 3))
}

func TestGivenClassesAlone(t *testing.T) {
	checkSet(t, nil, arrays(append([]string{"I", "N", "T", "V", "Aa", ""}, givenNames()...), 3))
	checkSet(t, []api.Class{}, arrays([]string{"I", "N", "T", "V", "Aa", "Object"}, 3))
}

func TestAllWrittenOut(t *testing.T) {
	h := mustNew(t, world())
	for _, x := range []struct {
		a, b string
		want bool
	}{
		{"", "", true},
		{"I", "I", true}, {"I", "T", true}, {"Bb", "Aa", true}, {"N", "[I", true}, {"Aa", "Bb", false}, {"I", "Aa", false}, {"T", "I", false}, {"Zz", "Zz", false}, {"V", "V", false},
		{"I", "", false}, {"", "I", false}, {"", "T", false}, {"T", "", false},
		{"Bb N I", "Aa Ee I", true},
		{"Aa N I", "Bb Ee I", false}, {"Bb I I", "Aa Ee I", false}, {"Bb N I", "Aa Ee N", false},
		{"Zz N I", "T Ee I", false}, {"Bb Zz I", "Aa T I", false}, {"Bb N Zz", "Aa Ee T", false},
		{"Bb N I", "Zz Ee I", false}, {"Bb N I", "Aa Zz I", false}, {"Bb N I", "Aa Ee Zz", false},
		{"Aa I I", "Bb Ee N", false},
		{"Bb N I", "Aa Ee", false}, {"Bb N", "Aa Ee I", false}, {"Bb N I", "Aa", false}, {"Bb", "Aa Ee I", false}, {"Bb N I", "", false}, {"", "Aa Ee I", false},
		{"Bb N I", "Aa Ee I T", false}, {"Bb N I T", "Aa Ee I", false}, {"N I", "Aa Ee I", false}, {"Bb N I", "Ee I", false},
		{"I Aa", "Aa I", false}, {"Bb Ee", "Ee Bb", false}, {"I Bb", "I Aa", true}, {"I Aa", "I Bb", false},
		{"T T T", "T T T", true}, {"I N Aa [I", "T T T T", true}, {"T T T T", "I N Aa [I", false}, {"N N N", "N [I Ff", true}, {"N N N", "N [I I", false},
	} {
		checkAll(t, h, strings.Fields(x.a), strings.Fields(x.b), x.want)
	}
	checkAll(t, h, nil, nil, true)
	checkAll(t, h, nil, []string{}, true)
	checkAll(t, h, []string{}, nil, true)
	checkAll(t, h, nil, []string{"T"}, false)
	checkAll(t, h, []string{"T"}, nil, false)
	checkAll(t, h, []string{""}, []string{""}, false)
	checkAll(t, h, nil, []string{""}, false)
}

// lists gives all lists of up to most of the texts.
func lists(texts []string, most int) [][]string {
	all := [][]string{nil}
	for from := 0; most > 0; most-- {
		to := len(all)
		for _, list := range all[from:to] {
			for _, x := range texts {
				all = append(all, append(slices.Clone(list), x))
			}
		}
		from = to
	}
	return all
}

func TestAllSmallLists(t *testing.T) {
	h, b := mustNew(t, world()), bookOf(world())
	small := lists([]string{"I", "N", "T", "Aa", "Bb", "Ff", "Zz"}, 3)
	if len(small) != 1+7+49+343 {
		t.Fatalf("%d lists", len(small))
	}
	for _, x := range small {
		for _, y := range small {
			checkAll(t, h, x, y, b.all(x, y))
		}
	}
}

func TestAllOfLongLists(t *testing.T) {
	h := mustNew(t, world())
	for _, n := range []int{1, 2, api.MaxLocals, api.MaxLocals + 1, 1000, 50000} {
		a, b := long(n, "Bb", "N", "I", "[Dd"), long(n, "Aa", "Gg", "I", "[Ff")
		checkAll(t, h, a, b, true)
		checkAll(t, h, a, a, true)
		checkAll(t, h, a, b[:n-1], false)
		checkAll(t, h, a[:n-1], b, false)
		checkAll(t, h, a, append(slices.Clone(b), "T"), false)
		for _, at := range []int{0, n / 2, n - 1} {
			for _, wrong := range []string{"Zz", "", "V", "[N"} {
				worse := slices.Clone(a)
				worse[at] = wrong
				checkAll(t, h, worse, b, false)
				worse = slices.Clone(b)
				worse[at] = wrong
				checkAll(t, h, a, worse, false)
			}
		}
	}
}

func TestGoesWrittenOut(t *testing.T) {
	h := mustNew(t, world())
	for _, x := range []struct {
		toLocals, toStack, locals, stack string
		want                             bool
	}{
		{"", "", "", "", true},
		{"Aa T", "Ff", "Bb N", "[I", true},
		{"Aa T", "Ff", "Aa T", "Ff", true},
		{"Aa T", "Ff", "Ee N", "[I", false},
		{"Aa T", "Ff", "Bb Zz", "[I", false},
		{"Aa T", "Ff", "Bb N", "I", false},
		{"Aa T", "Ff", "Ee N", "I", false},
		{"Aa T", "Ff", "Bb", "[I", false},
		{"Aa T", "Ff", "", "[I", false},
		{"Aa T", "Ff", "Bb N N", "[I", false},
		{"Aa T", "Ff", "Bb N", "", false},
		{"Aa T", "Ff", "Bb N", "[I [I", false},
		{"Aa T", "Ff", "Bb", "[I N", false},
		{"Aa T", "Ff", "", "", false},
		{"Aa T", "Ff", "[I", "Bb N", false},
		{"Aa", "I", "I", "Aa", false},
		{"Aa", "I", "Aa", "I", true},
		{"", "I", "", "I", true},
		{"", "I", "I", "", false},
		{"I", "", "I", "", true},
		{"I", "", "", "I", false},
		{"I", "I", "I", "", false},
		{"I", "I", "", "I", false},
		{"", "", "I", "", false},
		{"", "", "", "I", false},
		{"", "", "T", "", false},
		{"T", "", "", "", false},
		{"", "T", "", "I", true},
		{"T T", "", "I T", "", true},
		{"I T", "", "T T", "", false},
		{"Bb", "Aa", "Aa", "Bb", false},
		{"Aa", "Bb", "Bb", "Aa", false},
		{"Aa", "Aa", "Bb", "Bb", true},
		{"Bb", "Bb", "Aa", "Aa", false},
		{"Zz", "", "Zz", "", false},
		{"", "Zz", "", "Zz", false},
		{"I", "Aa Bb Thrown", "I", "N Dd BadErr", true},
		{"I", "Aa Bb Thrown", "I", "I Dd BadErr", false},
		{"I", "Aa Bb Thrown", "I", "N Aa BadErr", false},
		{"I", "Aa Bb Thrown", "I", "N Dd Object", false},
		{"Aa Bb Thrown", "I", "I Dd BadErr", "I", false},
		{"Aa Bb Thrown", "I", "N Aa BadErr", "I", false},
		{"Aa Bb Thrown", "I", "N Dd Object", "I", false},
	} {
		m := api.Map{Locals: strings.Fields(x.toLocals), Stack: strings.Fields(x.toStack)}
		for _, m.At = range []int{0, 3, -1, 1 << 62, -1 << 63} {
			checkGoes(t, h, m, strings.Fields(x.locals), strings.Fields(x.stack), x.want)
		}
	}
	checkGoes(t, h, api.Map{}, nil, nil, true)
	checkGoes(t, h, api.Map{}, []string{}, []string{}, true)
	checkGoes(t, h, api.Map{Locals: []string{}, Stack: []string{}}, nil, nil, true)
}

func TestGoesOfSmallLists(t *testing.T) {
	h, b := mustNew(t, world()), bookOf(world())
	small := lists([]string{"I", "N", "Aa", "Zz"}, 2)
	for _, toLocals := range small {
		for _, toStack := range small {
			m := api.Map{At: 1, Locals: toLocals, Stack: toStack}
			for _, locals := range small {
				for _, stack := range small {
					checkGoes(t, h, m, locals, stack, b.all(locals, toLocals) && b.all(stack, toStack))
				}
			}
		}
	}
}

// Of no Hier nothing is there, N and T neither; lists without elements fit each other all the same.
func TestNoHier(t *testing.T) {
	texts := slices.Concat(strange(), arrays(append([]string{"I", "N", "T", "V", "Aa", "Ff"}, givenNames()...), 3))
	for _, x := range texts {
		checkThere(t, nil, x, false)
		checkAll(t, nil, []string{x}, []string{x}, false)
		checkAll(t, nil, []string{x}, []string{"T"}, false)
		checkAll(t, nil, []string{x}, nil, false)
		checkAll(t, nil, nil, []string{x}, false)
		checkGoes(t, nil, api.Map{Locals: []string{x}}, []string{x}, nil, false)
		checkGoes(t, nil, api.Map{Stack: []string{x}}, nil, []string{x}, false)
		checkGoes(t, nil, api.Map{Locals: []string{x}, Stack: []string{x}}, []string{x}, []string{x}, false)
		checkGoes(t, nil, api.Map{}, []string{x}, nil, false)
		checkGoes(t, nil, api.Map{}, nil, []string{x}, false)
		for _, y := range texts {
			checkFits(t, nil, x, y, false)
		}
	}
	checkAll(t, nil, nil, nil, true)
	checkAll(t, nil, []string{}, nil, true)
	checkGoes(t, nil, api.Map{}, nil, nil, true)
	checkGoes(t, nil, api.Map{At: 5, Locals: []string{}}, nil, []string{}, true)
}

// A Hier that New did not make has no class at all.
func TestZeroHier(t *testing.T) {
	h := &hier.Hier{}
	for _, x := range append(strange(), arrays(append([]string{"Aa", "Ff"}, givenNames()...), 3)...) {
		checkThere(t, h, x, false)
		for _, y := range []string{x, "I", "N", "T", "[I", "Object", "[Object", "Ff"} {
			checkFits(t, h, x, y, false)
			checkFits(t, h, y, x, false)
		}
	}
}

// Many ways in which two classes and two interfaces may come from one another.
func TestAllSmallSets(t *testing.T) {
	texts := append(arrays([]string{"I", "Object", "Ca", "Cb", "Fa", "Fb", "Zz"}, 2), "N", "T", "V")
	impls := [][]string{nil, {"Fa"}, {"Fb"}, {"Fa", "Fb"}}
	for _, super := range []string{"Object", "Thrown", "Cb"} {
		for _, above := range []string{"Object", "ClassErr"} {
			for _, impl := range impls {
				for _, implAbove := range impls {
					for _, faces := range [][]api.Class{{face("Fa"), face("Fb")}, {face("Fa", "Fb"), face("Fb")}, {face("Fa"), face("Fb", "Fa")}} {
						checkSet(t, append([]api.Class{cl("Ca", super, impl...), cl("Cb", above, implAbove...)}, faces...), texts)
					}
				}
			}
		}
	}
}

// A name is an interface's in one set and a class's in another.
func TestInterfaceOrClass(t *testing.T) {
	for _, isFace := range []bool{false, true} {
		other := cl("Xx", "Object")
		other.Interface = isFace
		h := mustNew(t, []api.Class{cl("Aa", "Object"), other, face("Ff")})
		for _, a := range []string{"Aa", "Object", "Thrown", "Ff", "[I", "[[I", "[Aa", "[Xx", "[[Xx", "[Ff"} {
			checkFits(t, h, a, "Xx", isFace)
			checkFits(t, h, a, "[[Xx", a == "[[Xx")
			checkFits(t, h, a, "[Xx", a == "[Xx")
		}
		for _, a := range []string{"I", "T", "Zz", "[Zz", "[N", "V", ""} {
			checkFits(t, h, a, "Xx", false)
		}
		checkFits(t, h, "N", "Xx", true)
		checkFits(t, h, "Xx", "Xx", true)
	}
}

func TestDeepSets(t *testing.T) {
	var chain, faces []api.Class
	for i := range api.MaxClasses {
		super, impl := "StoreErr", []string(nil)
		if i > 0 {
			super, impl = classAt(i-1), []string{faceAt(i - 1)}
		}
		chain = append(chain, cl(classAt(i), super))
		faces = append(faces, face(faceAt(i), impl...))
	}
	for _, l := range [][]api.Class{chain, faces, append(slices.Clone(faces[:8]), chain[:8]...)} {
		texts := append(arrays(append([]string{"I", "Object", "StoreErr", "Thrown", "CastErr"}, classNames(l)...), 2), "N", "T", "V", "Zz")
		checkSet(t, l, texts)
		slices.Reverse(l)
		checkSet(t, l, texts)
	}
}

// set gives a set that may be: none comes from one behind it.
func (d *dice) set() []api.Class {
	var l []api.Class
	var faces []string
	supers := givenNames()
	for i := range d.below(api.MaxClasses + 1) {
		var impl []string
		if len(faces) > 0 {
			impl = d.some(faces, 3)
			slices.Sort(impl)
			impl = slices.Compact(impl)
		}
		if d.below(3) == 0 {
			l = append(l, face(faceAt(i), impl...))
			faces = append(faces, faceAt(i))
		} else {
			l = append(l, cl(classAt(i), d.of(supers), impl...))
			supers = append(supers, classAt(i), classAt(i))
		}
	}
	return l
}

func TestManySets(t *testing.T) {
	var d dice
	for range 150 {
		l := d.set()
		texts := append(arrays(append([]string{"I", "Object", "Thrown", "MathErr", "Zz"}, classNames(l)...), 2), "N", "T", "V", "")
		checkSet(t, l, texts)
		h, b := mustNew(t, l), bookOf(l)
		for range 200 {
			var x, y [2][]string
			for k := range 2 {
				x[k] = d.some(texts, 3)
				y[k] = d.goal(b, x[k], texts)
				checkAll(t, h, x[k], y[k], b.all(x[k], y[k]))
			}
			m := api.Map{At: d.below(100), Locals: y[0], Stack: y[1]}
			checkGoes(t, h, m, x[0], x[1], b.all(x[0], y[0]) && b.all(x[1], y[1]))
		}
	}
}

// goal gives a list that most often fits list, and is most often as long.
func (d *dice) goal(b book, list, texts []string) []string {
	var goal []string
	for _, x := range list {
		y := d.of(texts)
		for tries := 0; tries < 20 && !b.fits(x, y); tries++ {
			y = d.of(texts)
		}
		goal = append(goal, y)
	}
	if d.below(8) == 0 {
		return d.some(texts, 3)
	}
	return goal
}

// The calls say the same of one another as the chapter says it.
func TestCallsAgree(t *testing.T) {
	h := mustNew(t, world())
	texts := append(arrays(append([]string{"I", "N", "T", "V", "Zz", ""}, classNames(world())...), 2), strange()...)
	for _, x := range texts {
		checkThere(t, h, x, types.Fits(h, x, x))
		checkThere(t, h, x, types.Fits(h, x, "T"))
		for _, y := range texts {
			fits := types.Fits(h, x, y)
			checkAll(t, h, []string{x}, []string{y}, fits)
			checkGoes(t, h, api.Map{Locals: []string{y}}, []string{x}, nil, fits)
			checkGoes(t, h, api.Map{Stack: []string{y}}, nil, []string{x}, fits)
		}
	}
}
