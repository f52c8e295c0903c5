package types_test

import (
	"slices"
	"strconv"
	"strings"
	"testing"

	"daguerre/api"
	"daguerre/hier"
	"daguerre/types"
)

func cl(name, super string, impl ...string) api.Class {
	return api.Class{Name: name, Super: super, Impl: impl}
}

func face(name string, impl ...string) api.Class {
	return api.Class{Name: name, Super: "Object", Interface: true, Impl: impl}
}

// world gives Dd of Cc of Bb of Aa, Ee alone, and the interfaces Hh alone and Gg of Ff; Cc is of Gg.
func world() []api.Class {
	return []api.Class{
		cl("Dd", "Cc"), face("Gg", "Ff"), cl("Cc", "Bb", "Gg"), cl("BadErr", "MathErr"), face("Ff"),
		cl("Aa", "Object"), cl("Bb", "Aa"), face("Hh"), cl("Ee", "Object"),
	}
}

func mustNew(t *testing.T, l []api.Class) *hier.Hier {
	t.Helper()
	h, err := hier.New(l)
	if err != api.OK {
		t.Fatalf("New = %v; want a Hier", err)
	}
	return h
}

func checkThere(t *testing.T, h *hier.Hier, x string, want bool) {
	t.Helper()
	if got := types.There(h, x); got != want {
		t.Errorf("There(%.20q) = %v; want %v", x, got, want)
	}
}

func checkFits(t *testing.T, h *hier.Hier, a, b string, want bool) {
	t.Helper()
	if got := types.Fits(h, a, b); got != want {
		t.Errorf("Fits(%.20q, %.20q) = %v; want %v", a, b, got, want)
	}
}

func checkAll(t *testing.T, h *hier.Hier, a, b []string, want bool) {
	t.Helper()
	if got := types.All(h, a, b); got != want {
		t.Errorf("All(%.60q, %.60q) = %v; want %v", a, b, got, want)
	}
}

func checkGoes(t *testing.T, h *hier.Hier, m api.Map, locals, stack []string, want bool) {
	t.Helper()
	if got := types.Goes(h, m, locals, stack); got != want {
		t.Errorf("Goes(%v, %q, %q) = %v; want %v", m, locals, stack, got, want)
	}
}

// checkSet holds all answers of a set of classes, of each pair of texts, against the reckoning.
func checkSet(t *testing.T, l []api.Class, texts []string) {
	t.Helper()
	h, b := mustNew(t, l), bookOf(l)
	for _, x := range texts {
		checkThere(t, h, x, b.there(x))
		for _, y := range texts {
			checkFits(t, h, x, y, b.fits(x, y))
		}
	}
	if t.Failed() {
		t.Fatalf("of the set %v", l)
	}
}

func givenNames() []string {
	return []string{"Object", "Thrown", "NullErr", "RangeErr", "MathErr", "CastErr", "SizeErr", "StoreErr", "InitErr", "ClassErr"}
}

func classNames(l []api.Class) []string {
	var list []string
	for _, c := range l {
		list = append(list, c.Name)
	}
	return list
}

// arrays gives the texts and those of their arrays, of up to as many dimensions.
func arrays(texts []string, most int) []string {
	var list []string
	for dimensions := range most + 1 {
		for _, x := range texts {
			list = append(list, strings.Repeat("[", dimensions)+x)
		}
	}
	return list
}

// strange gives texts that stand for no type of any set here.
func strange() []string {
	return []string{
		"", " ", "V", "A", "M", "O", "U", "S", "Z", "0", "i", "n", "t", "v", "I ", " I", "N ", " N", "T ", " T", "II", "NN", "TT", "IN", "NT", "TI", "I,N", "null", "Null", "int",
		"Zz", "Nobody", "nobody", "object", "OBJECT", "Objec", "Objects", "Object ", " Object", "aa", "AA", "Aaa", "Aa.x", "Aa\x00", "ff", "FF", "$init", "Objectoid",
		"[", "[[", "[[[", "]", "I[", "Aa[", "[]", "[]I", "I[]", "[ I", "[,I", "(Aa", "\x00", "\xff", "[\x00", "[\xff", "Ää", "Ñ", "Т", "Ν", "Ι",
		strings.Repeat("a", 5000), strings.Repeat("N", 5000), strings.Repeat("T", 5000), strings.Repeat("[", 5000), strings.Repeat("[", 5000) + "I", strings.Repeat("[", 5000) + "Aa",
	}
}

// notThere gives texts of types of no set here, beside the strange ones: some only by their arrays.
func notThere() []string {
	list := arrays([]string{"N", "T", "V"}, 3)[2:]
	list = append(list, arrays([]string{"Zz"}, 3)...)
	return append(list, "[[[I", "[[[[I", "[[[Aa", "[[[Object", "[[[Ff", "[[[[Aa")
}

// long gives n texts: those of the list, again and again.
func long(n int, list ...string) []string {
	return slices.Repeat(list, n/len(list)+1)[:n]
}

func classAt(i int) string { return "C" + strconv.Itoa(i) }

func faceAt(i int) string { return "F" + strconv.Itoa(i) }

// dice gives numbers that are the same at each run.
type dice uint64

func (d *dice) below(n int) int {
	*d = *d*6364136223846793005 + 1442695040888963407
	return int(uint64(*d)>>33) % n
}

func (d *dice) of(list []string) string { return list[d.below(len(list))] }

func (d *dice) some(list []string, most int) []string {
	var some []string
	for range d.below(most + 1) {
		some = append(some, d.of(list))
	}
	return some
}
