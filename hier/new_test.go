package hier_test

import (
	"fmt"
	"slices"
	"strings"
	"testing"

	"daguerre/api"
	"daguerre/hier"
)

func TestNewOfNone(t *testing.T) {
	for what, l := range map[string][]api.Class{"nil": nil, "empty": {}, "empty with room": world()[:0]} {
		h := checkNew(t, what, l, api.OK)
		checkWho(t, what, h, nil, strange())
		checkPairs(t, h, nil, append(arrays(append(givenNames(), "I")), strange()...))
	}
}

func TestNewTakes(t *testing.T) {
	for what, l := range map[string][]api.Class{
		"one":                       {cl("Aa", "Object")},
		"one interface":             {face("Ff")},
		"the upper one last":        {cl("Bb", "Aa"), cl("Aa", "Object")},
		"the upper one first":       {cl("Aa", "Object"), cl("Bb", "Aa")},
		"of a given one":            {cl("Aa", "InitErr", "Ff"), face("Ff", "Gg"), face("Gg")},
		"two of one":                {cl("Aa", "Cc"), cl("Bb", "Cc"), cl("Cc", "Object")},
		"an interface by two ways":  {cl("Aa", "Object", "Ff", "Gg"), face("Ff", "Hh"), face("Gg", "Hh"), face("Hh")},
		"above and by itself":       {cl("Aa", "Bb", "Ff"), cl("Bb", "Object", "Ff"), face("Ff")},
		"four Impl":                 {cl("Aa", "Object", "Ff", "Gg", "Hh", "Ii"), face("Ff"), face("Gg"), face("Hh"), face("Ii")},
		"names near to given ones":  {cl("Objecs", "Object"), cl("Objects", "Object"), cl("OBJECT", "Object"), cl("Throw", "Object"), cl("II", "Object"), cl("VV", "II")},
		"world":                     world(),
		"names that begin alike":    {cl("Aa", "Object"), cl("Aaa", "Aa"), cl("AA", "Aaa"), cl("Aaaaaaaa", "AA")},
		"an interface that is lone": {face("Ff"), cl("Aa", "Object")},
	} {
		h := checkNew(t, what, l, api.OK)
		texts := append(arrays(append(bookOf(l).names(), "I")), strange()...)
		checkWho(t, what, h, l, texts)
		checkPairs(t, h, l, texts)
	}
	for _, name := range givenNames() {
		checkNew(t, "of "+name, []api.Class{cl("Aa", name)}, api.OK)
	}
}

func TestHowMany(t *testing.T) {
	for n := range 40 {
		want := api.OK
		if n > 16 {
			want = api.ErrLimit
		}
		plain := many(n, func(i int) api.Class { return cl(classAt(i), "Object") })
		h := checkNew(t, fmt.Sprint(n, " classes"), plain, want)
		if want == api.OK {
			checkWho(t, fmt.Sprint(n, " classes"), h, plain, nil)
		}
		checkNew(t, fmt.Sprint(n, " interfaces"), many(n, func(i int) api.Class { return face(faceAt(i)) }), want)
	}
	checkNew(t, "16 zero classes", make([]api.Class, 16), api.ErrForm)
	for _, n := range []int{17, 18, 32, 256, 65536, 1 << 20} {
		checkNew(t, fmt.Sprint(n, " zero classes"), make([]api.Class, n), api.ErrLimit)
	}
}

// mayNot gives classes each of which may not be for another cause, and nothing else is wrong with them.
func mayNot() map[string]api.Class {
	withField := face("Aa")
	withField.Fields = []api.Field{{Name: "f", Type: "I"}}
	withCode := face("Aa")
	withCode.Methods = []api.Method{runs("f")}
	withAbstract := cl("Aa", "Object")
	withAbstract.Methods = []api.Method{abstract("f")}
	noCode := cl("Aa", "Object")
	noCode.Methods = []api.Method{{Name: "f", Ret: "V"}}
	twice := cl("Aa", "Object")
	twice.Methods = []api.Method{runs("f"), runs("f")}
	badField := cl("Aa", "Object")
	badField.Fields = []api.Field{{Name: "f", Type: "V"}}
	faceOf := cl("Aa", "Thrown")
	faceOf.Interface = true
	return map[string]api.Class{
		"zero":                          {},
		"no Name":                       cl("", "Object"),
		"no Super":                      cl("Aa", ""),
		"a small letter":                cl("aa", "Object"),
		"a short Name":                  cl("A", "Object"),
		"I":                             cl("I", "Object"),
		"a long Name":                   cl("Abcdefghi", "Object"),
		"a longer Name":                 cl(strings.Repeat("A", 5000), "Object"),
		"an array":                      cl("[Aa", "Object"),
		"of an array":                   cl("Aa", "[Object"),
		"of I":                          cl("Aa", "I"),
		"an Impl of none":               cl("Aa", "Object", ""),
		"an Impl that is an array":      cl("Aa", "Object", "[Ff"),
		"an Impl twice":                 cl("Aa", "Object", "Ff", "Ff"),
		"five Impl":                     cl("Aa", "Object", "Ff", "Gg", "Hh", "Ii", "Jj"),
		"an interface not of Object":    faceOf,
		"an interface with a field":     withField,
		"an interface with code":        withCode,
		"a class with an abstract":      withAbstract,
		"a method without instructions": noCode,
		"a method twice":                twice,
		"a field of nothing":            badField,
	}
}

// faces gives what mayNot's classes have as Impl.
func faces() []api.Class {
	return []api.Class{face("Ff"), face("Gg"), face("Hh"), face("Ii"), face("Jj")}
}

func TestMayNotBe(t *testing.T) {
	checkNew(t, "the others alone", faces(), api.OK)
	for what, c := range mayNot() {
		for at := range 6 {
			checkNew(t, fmt.Sprint(what, " at ", at), slices.Insert(faces(), at, c), api.ErrForm)
		}
	}
}

func TestNameIsGiven(t *testing.T) {
	for _, name := range givenNames() {
		for at := range 6 {
			checkNew(t, name, slices.Insert(faces(), at, cl(name, "Object")), api.ErrForm)
			checkNew(t, name+" of Thrown", slices.Insert(faces(), at, cl(name, "Thrown")), api.ErrForm)
			checkNew(t, name+" as an interface", slices.Insert(faces(), at, face(name)), api.ErrForm)
		}
	}
}

func TestNameTwice(t *testing.T) {
	list := append(faces(), cl("Aa", "Object"), cl("Bb", "Aa", "Ff"))
	for _, c := range list {
		for at := range len(list) + 1 {
			checkNew(t, c.Name+" twice", slices.Insert(slices.Clone(list), at, c), api.ErrForm)
			checkNew(t, c.Name+" and an interface", slices.Insert(slices.Clone(list), at, face(c.Name)), api.ErrForm)
			checkNew(t, c.Name+" and a class", slices.Insert(slices.Clone(list), at, cl(c.Name, "Thrown")), api.ErrForm)
		}
	}
}

func TestMissing(t *testing.T) {
	for what, c := range map[string]api.Class{
		"Super":                    cl("Aa", "Zz"),
		"Super, with Impl":         cl("Aa", "Zz", "Ff", "Gg"),
		"Super, near a given one":  cl("Aa", "Objects"),
		"Super II":                 cl("Aa", "II"),
		"Impl":                     cl("Aa", "Object", "Zz"),
		"the first Impl":           cl("Aa", "Object", "Zz", "Ff", "Gg", "Hh"),
		"the second Impl":          cl("Aa", "Object", "Ff", "Zz", "Gg", "Hh"),
		"the last Impl":            cl("Aa", "Object", "Ff", "Gg", "Hh", "Zz"),
		"Impl of an interface":     face("Aa", "Zz"),
		"last one of an interface": face("Aa", "Ff", "Gg", "Hh", "Zz"),
		"both":                     cl("Aa", "Zz", "Yy"),
	} {
		for at := range 6 {
			checkNew(t, fmt.Sprint(what, " at ", at), slices.Insert(faces(), at, c), api.ErrMissing)
		}
	}
}

func TestKindsThatAreOthers(t *testing.T) {
	base := func() []api.Class { return append(faces(), cl("Bb", "Object"), cl("Cc", "Bb", "Ff")) }
	list := []api.Class{cl("Aa", "Ff"), cl("Aa", "Ff", "Gg"), cl("Aa", "Ff", "Ff"), cl("Aa", "Object", "Bb"), cl("Aa", "Object", "Cc"), cl("Aa", "Object", "Bb", "Ff", "Gg", "Hh"), cl("Aa", "Object", "Ff", "Gg", "Hh", "Bb"), cl("Aa", "Bb", "Bb"), face("Aa", "Bb"), face("Aa", "Ff", "Gg", "Hh", "Bb"), face("Aa", "Ff", "Bb", "Gg")}
	for _, name := range givenNames() {
		list = append(list, cl("Aa", "Object", name), cl("Aa", name, name), face("Aa", name), cl("Aa", "Object", "Ff", name), face("Aa", "Ff", "Gg", "Hh", name))
	}
	for _, c := range list {
		for at := range len(base()) + 1 {
			checkNew(t, fmt.Sprint(c, " at ", at), slices.Insert(base(), at, c), api.ErrForm)
		}
	}
}

// ring gives n classes that come from one another, by Super or by Impl.
func ring(n int, bySuper bool) []api.Class {
	return many(n, func(i int) api.Class {
		if bySuper {
			return cl(classAt(i), classAt((i+1)%n))
		}
		return face(faceAt(i), faceAt((i+1)%n))
	})
}

func TestRings(t *testing.T) {
	for n := 1; n <= 17; n++ {
		want := api.ErrForm
		if n > 16 {
			want = api.ErrLimit
		}
		for _, bySuper := range []bool{true, false} {
			what := fmt.Sprint("a ring of ", n, ", by Super ", bySuper)
			l := ring(n, bySuper)
			checkNew(t, what, l, want)
			slices.Reverse(l)
			checkNew(t, what+", reversed", l, want)
		}
	}
}

// A ring is told wherever it stands among others, which may come from it, or not.
func TestRingsAmongOthers(t *testing.T) {
	others := []api.Class{cl("Aa", "Object", "Ff"), cl("Bb", "Aa"), face("Ff", "Gg"), face("Gg")}
	for n := 1; n <= 5; n++ {
		bySuper, byImpl := ring(n, true), ring(n, false)
		for what, l := range map[string][]api.Class{
			"Super ahead":       slices.Concat(bySuper, others),
			"Super behind":      slices.Concat(others, bySuper),
			"Super between":     slices.Concat(others[:2], bySuper, others[2:]),
			"Impl ahead":        slices.Concat(byImpl, others),
			"Impl behind":       slices.Concat(others, byImpl),
			"Impl between":      slices.Concat(others[2:], byImpl, others[:2]),
			"one below, Super":  slices.Concat([]api.Class{cl("Xx", "C0")}, bySuper, others),
			"one below, Impl":   slices.Concat(others, []api.Class{cl("Xx", "Object", "F0")}, byImpl),
			"an interface more": slices.Concat([]api.Class{face("Xx", "Ff", "F0")}, others, byImpl),
			"both":              slices.Concat(bySuper, others, byImpl),
		} {
			checkNew(t, fmt.Sprint(n, ", ", what), l, api.ErrForm)
		}
	}
	checkNew(t, "a class and its own Impl", []api.Class{cl("Aa", "Object", "Aa")}, api.ErrForm)
	checkNew(t, "a ring by Super and Impl", []api.Class{cl("Aa", "Bb"), cl("Bb", "Object", "Aa")}, api.ErrForm)
	checkNew(t, "a ring that is come to behind others", []api.Class{face("Ff", "Gg"), face("Gg", "Hh", "Ii"), face("Hh"), face("Ii", "Gg")}, api.ErrForm)
	checkNew(t, "one that comes from itself, late", []api.Class{face("Ff", "Gg", "Hh"), face("Gg"), face("Hh", "Gg", "Hh")}, api.ErrForm)
	checkNew(t, "each of each", many(5, func(i int) api.Class {
		c := face(faceAt(i))
		for k := range 5 {
			if k != i {
				c.Impl = append(c.Impl, faceAt(k))
			}
		}
		return c
	}), api.ErrForm)
}

// A fault is classes that have it, and what it alone is told as.
type fault struct {
	what string
	l    []api.Class
	err  api.Errno
}

// faults gives them in the document's order; none of them names another's classes.
func faults() []fault {
	return []fault{
		{"may not be", []api.Class{cl("aa", "Object")}, api.ErrForm},
		{"is given", []api.Class{cl("MathErr", "Thrown")}, api.ErrForm},
		{"stands twice", []api.Class{cl("Tt", "Object"), cl("Tt", "Object")}, api.ErrForm},
		{"Super is missing", []api.Class{cl("Uu", "Zz")}, api.ErrMissing},
		{"Impl is missing", []api.Class{cl("Vv", "Object", "Yy")}, api.ErrMissing},
		{"Super is an interface", []api.Class{cl("Ww", "Xx"), face("Xx")}, api.ErrForm},
		{"Impl is none", []api.Class{cl("Oo", "Object", "Pp"), cl("Pp", "Object")}, api.ErrForm},
		{"Impl is a given one", []api.Class{cl("Qq", "Object", "Object")}, api.ErrForm},
		{"a ring by Super", []api.Class{cl("Rr", "Ss"), cl("Ss", "Rr")}, api.ErrForm},
		{"a ring by Impl", []api.Class{face("Jj", "Kk"), face("Kk", "Jj")}, api.ErrForm},
		{"Impl of itself", []api.Class{face("Ll", "Ll")}, api.ErrForm},
	}
}

// Of several faults the first one is told, whichever class it stands at.
func TestSeveralFaults(t *testing.T) {
	list := faults()
	for a := range list {
		for b := a; b < len(list); b++ {
			for c := b; c < len(list); c++ {
				first := list[a]
				l := slices.Clone(first.l)
				if b > a {
					l = append(l, list[b].l...)
				}
				if c > b {
					l = append(l, list[c].l...)
				}
				what := first.what + ", " + list[b].what + ", " + list[c].what
				checkInEachOrder(t, what, l, first.err)
			}
		}
	}
}

// checkInEachOrder begins at each class, goes on and back, and fills up with others, to too many, too.
func checkInEachOrder(t *testing.T, what string, l []api.Class, want api.Errno) {
	t.Helper()
	for at := range l {
		turned := slices.Concat(l[at:], l[:at])
		checkNew(t, what, turned, want)
		slices.Reverse(turned)
		checkNew(t, what+", reversed", turned, want)
		for n := len(l); n < 19; n++ {
			more := many(n-len(l), func(i int) api.Class { return cl(classAt(i), "Object") })
			err := want
			if n > 16 {
				err = api.ErrLimit
			}
			checkNew(t, fmt.Sprint(what, ", ", n), append(more, turned...), err)
			checkNew(t, fmt.Sprint(what, ", ", n, ", behind"), append(slices.Clone(turned), more...), err)
		}
	}
}

// The faults of one class are told in the same order.
func TestSeveralFaultsOfOneClass(t *testing.T) {
	others := []api.Class{face("Ff"), cl("Bb", "Object")}
	for _, c := range []struct {
		what string
		c    api.Class
		want api.Errno
	}{
		{"may not be, and Super is missing", cl("aa", "Zz"), api.ErrForm},
		{"may not be, and Impl is missing", cl("Aa", "Object", "Zz", "Zz"), api.ErrForm},
		{"is given, and Super is missing", cl("Thrown", "Zz"), api.ErrForm},
		{"is given, and Impl is missing", cl("Thrown", "Object", "Zz"), api.ErrForm},
		{"twice, and Super is missing", cl("Bb", "Zz"), api.ErrForm},
		{"Super is an interface, Impl is missing", cl("Aa", "Ff", "Zz"), api.ErrMissing},
		{"Super is missing, Impl is none", cl("Aa", "Zz", "Bb"), api.ErrMissing},
		{"an Impl is none, another is missing", cl("Aa", "Object", "Bb", "Zz"), api.ErrMissing},
		{"an Impl is missing, another is none", cl("Aa", "Object", "Zz", "Bb"), api.ErrMissing},
		{"of itself, and Impl is missing", cl("Aa", "Aa", "Zz"), api.ErrMissing},
		{"an Impl is itself, another is missing", face("Aa", "Aa", "Zz"), api.ErrMissing},
		{"Super is an interface, Impl is none", cl("Aa", "Ff", "Bb"), api.ErrForm},
		{"is given, of itself", cl("Object", "Object"), api.ErrForm},
	} {
		checkInEachOrder(t, c.what, append(slices.Clone(others), c.c), c.want)
	}
}

// All sets of two, and of three, of these: each Super and Impl that there may be among them, and one that is missing.
func TestAllSmallSets(t *testing.T) {
	each := func(name string, all []string) []api.Class {
		var list []api.Class
		for bits := range 1 << len(all) {
			var impl []string
			for i, s := range all {
				if bits&(1<<i) != 0 {
					impl = append(impl, s)
				}
			}
			list = append(list, face(name, impl...))
			for _, super := range append([]string{"Object", "Zz"}, all...) {
				list = append(list, cl(name, super, impl...))
			}
		}
		return list
	}
	two := []string{"Aa", "Bb"}
	for _, a := range each("Aa", append(two, "Zz")) {
		for _, b := range each("Bb", append(two, "Thrown")) {
			checkSmall(t, []api.Class{a, b})
		}
	}
	three := []string{"Aa", "Bb", "Cc"}
	for _, a := range each("Aa", three) {
		for _, b := range each("Bb", three) {
			for _, c := range each("Cc", three) {
				checkSmall(t, []api.Class{b, a, c})
			}
		}
	}
}

func checkSmall(t *testing.T, l []api.Class) {
	t.Helper()
	want := wantNew(l)
	h, err := hier.New(l)
	if err != want || (h != nil) != (want == api.OK) {
		t.Errorf("%v: New = a Hier %v, %v; want %v", l, h != nil, err, want)
	}
	if h == nil {
		return
	}
	b := bookOf(l)
	for _, c := range l {
		checkList(t, fmt.Sprint(l, ": Supers of ", c.Name), h.Supers(c.Name), b.supers(c.Name))
		checkList(t, fmt.Sprint(l, ": Faces of ", c.Name), h.Faces(c.Name), b.faces(c.Name))
		for _, other := range l {
			checkSub(t, h, c.Name, other.Name, b.sub(c.Name, other.Name))
		}
	}
}
