package hier_test

import (
	"fmt"
	"slices"
	"strings"
	"testing"

	"daguerre/api"
	"daguerre/class"
	"daguerre/hier"
)

func TestGiven(t *testing.T) {
	for range 3 {
		checkList(t, "Given()", hier.Given(), []string{"Object", "Thrown", "NullErr", "RangeErr", "MathErr", "CastErr", "SizeErr", "StoreErr", "InitErr", "ClassErr"})
	}
}

func TestNames(t *testing.T) {
	h := mustNew(t, world())
	checkList(t, "Names()", h.Names(), []string{
		"Object", "Thrown", "NullErr", "RangeErr", "MathErr", "CastErr", "SizeErr", "StoreErr", "InitErr", "ClassErr",
		"Mallard", "Stone", "Walk", "Bird", "Fly", "BadErr", "Swim", "Animal", "Run", "WorseErr", "Duck",
	})
	checkList(t, "Names() of none", mustNew(t, nil).Names(), givenNames())
	l := world()
	slices.Reverse(l)
	checkList(t, "Names() of the same, reversed", mustNew(t, l).Names(), bookOf(l).names())
}

func TestClass(t *testing.T) {
	h := mustNew(t, world())
	for _, want := range world() {
		if got, ok := h.Class(want.Name); !ok || !class.Eq(got, want) {
			t.Errorf("Class(%q) = %v, %v; want %v", want.Name, got, ok, want)
		}
	}
	for i, name := range givenNames() {
		want := api.Class{Name: name, Super: "Thrown"}
		if i < 2 {
			want.Super = []string{"", "Object"}[i]
		}
		if got, ok := h.Class(name); !ok || !class.Eq(got, want) {
			t.Errorf("Class(%q) = %v, %v; want %v", name, got, ok, want)
		}
	}
	for _, s := range append(strange(), "I", "[I", "[Bird", "[[Bird", "[Object", "bird", "Bir", "Birds") {
		if got, ok := h.Class(s); ok || !class.Eq(got, api.Class{}) {
			t.Errorf("Class(%.20q) = %v, %v; want none", s, got, ok)
		}
	}
}

func TestSupersAndFacesWrittenOut(t *testing.T) {
	h := mustNew(t, world())
	for name, want := range map[string]string{
		"Mallard":  "[Mallard Bird Animal Object] [Duck Fly Run Swim Walk]",
		"Bird":     "[Bird Animal Object] [Fly Run Walk]",
		"Animal":   "[Animal Object] []",
		"Stone":    "[Stone Object] []",
		"BadErr":   "[BadErr MathErr Thrown Object] [Run]",
		"WorseErr": "[WorseErr BadErr MathErr Thrown Object] [Run]",
		"Run":      "[Run Object] [Run]",
		"Swim":     "[Swim Object] [Swim]",
		"Walk":     "[Walk Object] [Run Walk]",
		"Fly":      "[Fly Object] [Fly Run]",
		"Duck":     "[Duck Object] [Duck Fly Run Swim Walk]",
		"Object":   "[Object] []",
		"Thrown":   "[Thrown Object] []",
		"NullErr":  "[NullErr Thrown Object] []",
		"RangeErr": "[RangeErr Thrown Object] []",
		"MathErr":  "[MathErr Thrown Object] []",
		"CastErr":  "[CastErr Thrown Object] []",
		"SizeErr":  "[SizeErr Thrown Object] []",
		"StoreErr": "[StoreErr Thrown Object] []",
		"InitErr":  "[InitErr Thrown Object] []",
		"ClassErr": "[ClassErr Thrown Object] []",
		"":         "[] []", "I": "[] []", "[Bird": "[] []", "Zz": "[] []", "bird": "[] []",
	} {
		if got := fmt.Sprint(h.Supers(name), " ", h.Faces(name)); got != want {
			t.Errorf("%q: %s; want %s", name, got, want)
		}
	}
	checkWho(t, "world", h, world(), append(arrays(append(bookOf(world()).names(), "I")), strange()...))
}

// Names rise byte by byte: digits, then great letters, then small ones; what is shorter comes first.
func TestFacesRise(t *testing.T) {
	l := []api.Class{cl("Cc", "Bb", "Aaa", "AA", "Ab", "A9"), cl("Bb", "Object", "A0", "Za", "Aa", "Az"), face("Aa"), face("A0"), face("Za"), face("AA"), face("Az"), face("Aaa"), face("A9", "Zz"), face("Ab"), face("Zz")}
	want := []string{"A0", "A9", "AA", "Aa", "Aaa", "Ab", "Az", "Za", "Zz"}
	for range l {
		l = append(l[1:], l[0])
		checkList(t, "Faces", mustNew(t, l).Faces("Cc"), want)
	}
}

// An interface is told once, by however many ways it is come to.
func TestFacesOnce(t *testing.T) {
	for what, l := range map[string][]api.Class{
		"above and by itself":    {cl("Xx", "Yy", "Ff"), cl("Yy", "Object", "Ff"), face("Ff")},
		"by two of its own":      {cl("Xx", "Object", "Gg", "Hh"), face("Gg", "Ff"), face("Hh", "Ff"), face("Ff")},
		"at once and by another": {cl("Xx", "Object", "Ff", "Gg"), face("Gg", "Ff"), face("Ff")},
		"of an interface":        {face("Xx", "Gg", "Hh"), face("Hh", "Ff"), face("Ff"), face("Gg", "Ff")},
	} {
		h := checkNew(t, what, l, api.OK)
		count := 0
		for _, s := range h.Faces("Xx") {
			if s == "Ff" {
				count++
			}
		}
		if count != 1 {
			t.Errorf("%s: Faces = %v; want Ff once", what, h.Faces("Xx"))
		}
		checkWho(t, what, h, l, nil)
	}
}

// An interface's Super is Object, and it has no more of Super's than that.
func TestFacesAreNoSupers(t *testing.T) {
	l := []api.Class{cl("Aa", "Bb"), cl("Bb", "Object", "Ff"), face("Ff", "Gg"), face("Gg")}
	h := mustNew(t, l)
	checkList(t, "Supers of a class", h.Supers("Aa"), []string{"Aa", "Bb", "Object"})
	checkList(t, "Faces of a class", h.Faces("Aa"), []string{"Ff", "Gg"})
	checkList(t, "Supers of an interface", h.Supers("Ff"), []string{"Ff", "Object"})
}

// of gives, written out, all class types of world and of the given ones that each one is of.
func of() map[string][]string {
	return map[string][]string{
		"I":        {"I"},
		"Mallard":  {"Mallard", "Bird", "Animal", "Object", "Duck", "Fly", "Run", "Swim", "Walk"},
		"Bird":     {"Bird", "Animal", "Object", "Fly", "Run", "Walk"},
		"Animal":   {"Animal", "Object"},
		"Stone":    {"Stone", "Object"},
		"BadErr":   {"BadErr", "MathErr", "Thrown", "Object", "Run"},
		"WorseErr": {"WorseErr", "BadErr", "MathErr", "Thrown", "Object", "Run"},
		"Run":      {"Run", "Object"},
		"Swim":     {"Swim", "Object"},
		"Walk":     {"Walk", "Run", "Object"},
		"Fly":      {"Fly", "Run", "Object"},
		"Duck":     {"Duck", "Walk", "Swim", "Fly", "Run", "Object"},
		"Object":   {"Object"},
		"Thrown":   {"Thrown", "Object"},
		"NullErr":  {"NullErr", "Thrown", "Object"},
		"RangeErr": {"RangeErr", "Thrown", "Object"},
		"MathErr":  {"MathErr", "Thrown", "Object"},
		"CastErr":  {"CastErr", "Thrown", "Object"},
		"SizeErr":  {"SizeErr", "Thrown", "Object"},
		"StoreErr": {"StoreErr", "Thrown", "Object"},
		"InitErr":  {"InitErr", "Thrown", "Object"},
		"ClassErr": {"ClassErr", "Thrown", "Object"},
	}
}

// ofArrays gives what an array is of whose elements are of all these, and what an array of such arrays.
func ofArrays(list []string) (one, two []string) {
	one, two = []string{"Object"}, []string{"Object", "[Object"}
	for _, s := range list {
		one = append(one, "["+s)
		two = append(two, "[["+s)
	}
	return one, two
}

func TestSubOfAllPairs(t *testing.T) {
	want := of()
	for name, list := range of() {
		want["["+name], want["[["+name] = ofArrays(list)
	}
	if len(want) != 66 {
		t.Fatalf("%d types; want 66", len(want))
	}
	h := mustNew(t, world())
	for a, list := range want {
		for b := range want {
			checkSub(t, h, a, b, slices.Contains(list, b))
		}
		for _, s := range strange() {
			checkSub(t, h, a, s, false)
			checkSub(t, h, s, a, false)
		}
	}
	for _, a := range strange() {
		for _, b := range strange() {
			checkSub(t, h, a, b, false)
		}
	}
	checkPairs(t, h, world(), append(arrays(append(bookOf(world()).names(), "I")), strange()...))
}

func TestSubWrittenOut(t *testing.T) {
	h := mustNew(t, world())
	for _, c := range []struct {
		a, b string
		want bool
	}{
		{"I", "I", true}, {"I", "Object", false}, {"Object", "I", false}, {"I", "[I", false}, {"[I", "I", false},
		{"[I", "[I", true}, {"[I", "Object", true}, {"[I", "[Object", false}, {"[I", "[[I", false}, {"[I", "Run", false}, {"[I", "Thrown", false},
		{"[[I", "[[I", true}, {"[[I", "[I", false}, {"[[I", "[Object", true}, {"[[I", "[[Object", false}, {"[[I", "Object", true}, {"[[I", "[Run", false},
		{"[Object", "[I", false}, {"[Bird", "[I", false}, {"[[Bird", "[I", false}, {"[[Bird", "[[I", false},
		{"[Bird", "[Bird", true}, {"[Bird", "[Animal", true}, {"[Bird", "[Run", true}, {"[Bird", "[Object", true}, {"[Bird", "Object", true}, {"[Bird", "[Mallard", false}, {"[Bird", "Bird", false}, {"[Bird", "Animal", false}, {"[Bird", "Run", false}, {"Bird", "[Bird", false},
		{"[[Mallard", "[[Duck", true}, {"[[Mallard", "[[Object", true}, {"[[Mallard", "[Object", true}, {"[[Mallard", "[Mallard", false}, {"[[Mallard", "[Duck", false}, {"[Mallard", "[[Mallard", false}, {"[Object", "[[Object", false}, {"[[Object", "[Object", true},
		{"[Run", "[Object", true}, {"[Duck", "[Walk", true}, {"[Walk", "[Duck", false}, {"[Object", "[Run", false},
		{"Object", "[Object", false}, {"Thrown", "[Object", false},
		{"Zz", "Zz", false}, {"[Zz", "[Zz", false}, {"[[Zz", "[[Zz", false}, {"Zz", "Object", false}, {"[Zz", "Object", false}, {"[[Zz", "[Object", false}, {"[[Zz", "Object", false}, {"Bird", "Zz", false}, {"[Bird", "[Zz", false},
		{"", "", false}, {"", "Object", false}, {"N", "N", false}, {"N", "Object", false}, {"T", "T", false}, {"V", "V", false}, {"[V", "[V", false}, {"[V", "Object", false}, {"[", "[", false}, {"[", "Object", false}, {"[[", "Object", false},
		{"[[[I", "[[[I", false}, {"[[[I", "Object", false}, {"[[[Bird", "[[[Bird", false}, {"[[[Bird", "Object", false}, {"[[[Bird", "[[Object", false}, {"[[[Bird", "[Object", false}, {"[[Bird", "[[[Bird", false},
	} {
		checkSub(t, h, c.a, c.b, c.want)
		if got := bookOf(world()).sub(c.a, c.b); got != c.want {
			t.Errorf("Sub(%q, %q): the reckoning says %v; want %v", c.a, c.b, got, c.want)
		}
	}
}

// The same texts are asked of sets that have other classes of these names.
func TestSubHangsOnTheSet(t *testing.T) {
	for _, c := range []struct {
		l    []api.Class
		want bool
	}{
		{nil, false},
		{[]api.Class{cl("Aa", "Object")}, false},
		{[]api.Class{cl("Bb", "Object")}, false},
		{[]api.Class{cl("Aa", "Object"), cl("Bb", "Object")}, false},
		{[]api.Class{cl("Aa", "Bb"), cl("Bb", "Object")}, true},
		{[]api.Class{cl("Aa", "Object", "Bb"), face("Bb")}, true},
		{[]api.Class{face("Aa", "Bb"), face("Bb")}, true},
		{[]api.Class{cl("Aa", "Object"), cl("Bb", "Aa")}, false},
		{[]api.Class{face("Aa"), face("Bb", "Aa")}, false},
		{[]api.Class{face("Aa"), cl("Bb", "Object", "Aa")}, false},
	} {
		h := mustNew(t, c.l)
		for _, head := range []string{"", "[", "[["} {
			checkSub(t, h, head+"Aa", head+"Bb", c.want)
		}
	}
}

func TestNilHier(t *testing.T) {
	var h *hier.Hier
	if got := h.Names(); len(got) != 0 {
		t.Errorf("Names() = %q; want none", got)
	}
	texts := append(arrays(append(bookOf(world()).names(), "I")), strange()...)
	for _, s := range texts {
		if c, ok := h.Class(s); ok || !class.Eq(c, api.Class{}) {
			t.Errorf("Class(%.20q) = %v, %v; want none", s, c, ok)
		}
		checkList(t, "Supers("+s+")", h.Supers(s), nil)
		checkList(t, "Faces("+s+")", h.Faces(s), nil)
		for _, other := range texts {
			checkSub(t, h, s, other, false)
		}
	}
}

// A Hier that New did not make has no classes; asking it does no harm.
func TestZeroHier(t *testing.T) {
	h := new(hier.Hier)
	if got := h.Names(); len(got) != 0 {
		t.Errorf("Names() = %q; want none", got)
	}
	for _, s := range append(strange(), "Object", "Thrown", "[Object", "[[Object") {
		if c, ok := h.Class(s); ok || !class.Eq(c, api.Class{}) {
			t.Errorf("Class(%.20q) = %v, %v; want none", s, c, ok)
		}
		checkList(t, "Supers("+s+")", h.Supers(s), nil)
		checkList(t, "Faces("+s+")", h.Faces(s), nil)
		checkSub(t, h, s, s, false)
		checkSub(t, h, s, "Object", false)
	}
}

// great gives sets of sixteen that are as deep, or as dense, as they may be.
func great() map[string][]api.Class {
	err := many(16, func(i int) api.Class { return cl(classAt(i), classAt(i+1)) })
	err[15].Super = "ClassErr"
	deep := many(16, func(i int) api.Class { return face(faceAt(i), faceAt(i+1)) })
	deep[15].Impl = nil
	dense := many(16, func(i int) api.Class {
		c := face(faceAt(i))
		for k := i + 1; k < min(16, i+5); k++ {
			c.Impl = append(c.Impl, faceAt(k))
		}
		return c
	})
	both := slices.Clone(dense)[8:]
	for i := range 8 {
		c := cl(classAt(i), classAt(i+1), faceAt(15-i), faceAt(8+i/3))
		if i == 7 {
			c.Super = "Object"
		}
		both = append(both, c)
	}
	return map[string][]api.Class{"deep by Super": err, "deep by Impl": deep, "dense": dense, "both": both}
}

func TestGreatSets(t *testing.T) {
	for what, l := range great() {
		for range 2 {
			h := checkNew(t, what, l, api.OK)
			checkWho(t, what, h, l, strange())
			checkPairs(t, h, l, append(arrays(append(bookOf(l).names(), "I")), strange()...))
			slices.Reverse(l)
		}
		more := append(slices.Clone(l), cl("Xx", "Object"))
		checkNew(t, what+", one more", more, api.ErrLimit)
	}
	h := mustNew(t, great()["deep by Super"])
	if got := strings.Join(h.Supers("C0"), " "); got != "C0 C1 C2 C3 C4 C5 C6 C7 C8 C9 C10 C11 C12 C13 C14 C15 ClassErr Thrown Object" {
		t.Errorf("Supers of the deepest: %s", got)
	}
	h = mustNew(t, great()["deep by Impl"])
	if got := strings.Join(h.Faces("F0"), " "); got != "F0 F1 F10 F11 F12 F13 F14 F15 F2 F3 F4 F5 F6 F7 F8 F9" {
		t.Errorf("Faces of the deepest: %s", got)
	}
}

// dice gives numbers that are the same at each run.
type dice uint64

func (d *dice) below(n int) int {
	*d = *d*6364136223846793005 + 1442695040888963407
	return int(uint64(*d)>>33) % n
}

// set gives a set of up to sixteen; now and then with a fault.
func (d *dice) set() []api.Class {
	n := d.below(17)
	l := make([]api.Class, 0, n)
	for i := range n {
		name := func(k int) string {
			if k%3 == 0 {
				return faceAt(k)
			}
			return classAt(k)
		}
		c := cl(name(i), givenNames()[d.below(10)])
		c.Interface = i%3 == 0
		for range d.below(5) {
			k := 3 * d.below(6)
			if k >= i && d.below(60) > 0 || slices.Contains(c.Impl, faceAt(k)) || len(c.Impl) == 4 {
				continue
			}
			c.Impl = append(c.Impl, faceAt(k))
		}
		if k := d.below(max(1, i)); k%3 != 0 || d.below(60) == 0 {
			c.Super = name(k)
		}
		if c.Interface {
			c.Super = "Object"
		}
		l = append(l, c)
	}
	for i := range l {
		k := d.below(len(l))
		l[i], l[k] = l[k], l[i]
	}
	return l
}

func TestManySets(t *testing.T) {
	d := dice(7)
	told := map[api.Errno]int{}
	for i := range 3000 {
		l := d.set()
		want := wantNew(l)
		told[want]++
		h := checkNew(t, fmt.Sprint("set ", i), l, want)
		if h == nil {
			continue
		}
		checkWho(t, fmt.Sprint("set ", i), h, l, nil)
		texts := arrays(append(bookOf(l).names(), "I"))
		for range 100 {
			a, b := texts[d.below(len(texts))], texts[d.below(len(texts))]
			checkSub(t, h, a, b, bookOf(l).sub(a, b))
		}
	}
	if told[api.OK] < 500 || told[api.ErrForm] < 100 || told[api.ErrMissing] < 100 {
		t.Errorf("the sets are too much alike: %v", told)
	}
}
