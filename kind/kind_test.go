package kind_test

import (
	"regexp"
	"strings"
	"testing"

	"daguerre/kind"
)

// The chapter's words as patterns, each written out whole, so that none leans on another.
var (
	classPattern = regexp.MustCompile(`\A[A-Z][A-Za-z0-9]{1,7}\z`)
	namePattern  = regexp.MustCompile(`\A(?:[a-z][A-Za-z0-9]{0,7}|\$init)\z`)
	mayPattern   = regexp.MustCompile(`\A\[{0,2}(?:I|[A-Z][A-Za-z0-9]{1,7})\z`)
	retPattern   = regexp.MustCompile(`\A(?:V|\[{0,2}(?:I|[A-Z][A-Za-z0-9]{1,7}))\z`)
	refPattern   = regexp.MustCompile(`\A(?:\[{1,2}I|\[{0,2}[A-Z][A-Za-z0-9]{1,7})\z`)
	elemPattern  = regexp.MustCompile(`\A\[(\[?(?:I|[A-Z][A-Za-z0-9]{1,7}))\z`)
	arrayPattern = regexp.MustCompile(`\A\[?(?:I|[A-Z][A-Za-z0-9]{1,7})\z`)
)

// answers is what the seven calls say of one text.
type answers struct {
	class, name, may, ret, ref bool
	elem                       string
	isArray                    bool
	array                      string
}

func got(s string) answers {
	elem, isArray := kind.Elem(s)
	return answers{kind.Class(s), kind.Name(s), kind.May(s), kind.Ret(s), kind.Ref(s), elem, isArray, kind.Array(s)}
}

func want(s string) answers {
	a := answers{
		class: classPattern.MatchString(s),
		name:  namePattern.MatchString(s),
		may:   mayPattern.MatchString(s),
		ret:   retPattern.MatchString(s),
		ref:   refPattern.MatchString(s),
	}
	if found := elemPattern.FindStringSubmatch(s); found != nil {
		a.elem, a.isArray = found[1], true
	}
	if arrayPattern.MatchString(s) {
		a.array = "[" + s
	}
	return a
}

func check(t *testing.T, s string) {
	t.Helper()
	if g, w := got(s), want(s); g != w {
		t.Errorf("%.40q (%d bytes):\n got %#v\nwant %#v", s, len(s), g, w)
	}
}

// The answers that are written out hold the patterns, too.
func checkWritten(t *testing.T, s string, w answers) {
	t.Helper()
	if g := got(s); g != w {
		t.Errorf("%q:\n got %#v\nwant %#v", s, g, w)
	}
	if p := want(s); p != w {
		t.Errorf("%q: the patterns say %#v\nwant %#v", s, p, w)
	}
}

func ofClass(s string) answers {
	return answers{class: true, may: true, ret: true, ref: true, array: "[" + s}
}

func ofName() answers { return answers{name: true} }

func TestNothing(t *testing.T) {
	for _, s := range []string{"", "[", "[[", "[[[", "[[[[", "[V", "[[V", "VV[", "[[[I", "[[[[I", "[[[Ab", "]", "[]", "I[", "[I[", "Ab[", "I]", " ", " I", "I ", "II[", "[ I", "[I ", "N", "T"} {
		checkWritten(t, s, answers{})
	}
}

func TestIntAndNothingGivenBack(t *testing.T) {
	checkWritten(t, "I", answers{may: true, ret: true, array: "[I"})
	checkWritten(t, "V", answers{ret: true})
}

func TestClassesWritten(t *testing.T) {
	for _, s := range []string{"Ab", "AB", "A0", "A9", "Zz", "ZZ", "AA", "Az", "II", "VV", "IV", "VI", "I0", "Object", "Abcdefgh", "ABCDEFGH", "Z0123456", "A9zZ0aAz"} {
		checkWritten(t, s, ofClass(s))
	}
}

func TestNamesWritten(t *testing.T) {
	for _, s := range []string{"a", "z", "i", "v", "aB9", "a0", "zZ", "init", "run", "abcdefgh", "aBCDEFGH", "z0123456", "$init"} {
		checkWritten(t, s, ofName())
	}
}

func TestNeitherClassNorName(t *testing.T) {
	for _, s := range []string{
		"A", "Z", "N", "Abcdefghi", "ABCDEFGHI", "abcdefghi", "z01234567",
		"9A", "9a", "0", "01", "_a", "_A", "A_", "a_", "A b", "a b", "A.", "a-", "Ab\n", "ab\n", "\nab", "Ab\x00", "ab\x00", "\x00",
		"@b", "`b", "{b", "/b", ":b", "A@", "A`", "A{", "A/", "A:", "a@", "a[", "a`", "a{", "a/", "a:",
	} {
		checkWritten(t, s, answers{})
	}
}

// Letters and digits of other writings, whole or broken, are none of a name's; a length is told in bytes.
func TestOtherWritings(t *testing.T) {
	for _, s := range []string{"é", "É", "Éb", "éb", "Aé", "aé", "Aéééé", "aéé", "ａ", "Ａb", "A٣", "a٣", "Aß", "аб", "Аб", "Aя", "A\xc3", "a\xff", "\xffb", "A\x80", "\u017fa", "\u212ab", "[é", "[[Aé"} {
		checkWritten(t, s, answers{})
	}
}

func TestArraysWritten(t *testing.T) {
	for _, c := range []struct{ s, elem, array string }{
		{"[I", "I", "[[I"},
		{"[[I", "[I", ""},
		{"[Ab", "Ab", "[[Ab"},
		{"[[Ab", "[Ab", ""},
		{"[II", "II", "[[II"},
		{"[[VV", "[VV", ""},
		{"[Abcdefgh", "Abcdefgh", "[[Abcdefgh"},
		{"[[Abcdefgh", "[Abcdefgh", ""},
	} {
		checkWritten(t, c.s, answers{may: true, ret: true, ref: true, elem: c.elem, isArray: true, array: c.array})
	}
}

// heads stand ahead of each inner text: from none to more than there may be.
func heads() []string {
	return []string{"", "[", "[[", "[[[", "[[[[", "[[[[[", " [", "[ ", "[]", "]", "]["}
}

func TestArraysOfAll(t *testing.T) {
	inner := []string{"", "I", "V", "N", "T", "A", "i", "v", "a", "Ab", "II", "VV", "Abcdefgh", "Abcdefghi", "ab", "abcdefgh", "abcdefghi", "$init", "9A", "A_", "Ab[", "I[", "[I", "Aé"}
	for _, head := range heads() {
		for _, s := range inner {
			check(t, head+s)
		}
	}
}

func TestEachByte(t *testing.T) {
	for x := range 256 {
		s := string([]byte{byte(x)})
		for _, head := range heads() {
			check(t, head+s)
			check(t, s+head)
		}
		w := answers{}
		switch {
		case s == "I":
			w = answers{may: true, ret: true, array: "[I"}
		case s == "V":
			w = answers{ret: true}
		case 'a' <= x && x <= 'z':
			w = ofName()
		}
		checkWritten(t, s, w)
	}
}

func TestEachPairOfBytes(t *testing.T) {
	for x := range 256 {
		for y := range 256 {
			s := string([]byte{byte(x), byte(y)})
			check(t, s)
			check(t, "["+s)
			check(t, "[["+s)
		}
	}
}

// A byte that may not be is seen wherever it stands.
func TestEachByteAtEachPlace(t *testing.T) {
	for _, whole := range []string{"Ab", "Abc", "Abcdefg", "Abcdefgh", "Abcdefghi", "a", "ab", "abcdefg", "abcdefgh", "abcdefghi", "[I", "[[I", "[[[I", "[Ab", "[[Ab", "[Abcdefgh", "[[Abcdefgh"} {
		for at := range whole {
			b := []byte(whole)
			for x := range 256 {
				b[at] = byte(x)
				check(t, string(b))
			}
		}
	}
}

func TestEachLength(t *testing.T) {
	for size := range 40 {
		for _, first := range []string{"A", "Z", "I", "V", "a", "z", "0", "$", "_", "["} {
			for _, rest := range []string{"a", "z", "A", "Z", "0", "9", "$", "_", "["} {
				s := first + strings.Repeat(rest, size)
				for _, head := range heads() {
					check(t, head+s)
				}
			}
		}
	}
	for size, w := range map[int]bool{1: false, 2: true, 3: true, 7: true, 8: true, 9: false} {
		s := "A" + strings.Repeat("b", size-1)
		if kind.Class(s) != w || kind.May(s) != w || kind.May("["+s) != w || kind.May("[["+s) != w {
			t.Errorf("a class's name of %d bytes: want %v", size, w)
		}
	}
	for size, w := range map[int]bool{1: true, 2: true, 7: true, 8: true, 9: false} {
		if s := "a" + strings.Repeat("B", size-1); kind.Name(s) != w {
			t.Errorf("a name of %d bytes: want %v", size, w)
		}
	}
}

func TestNearInit(t *testing.T) {
	const whole = "$init"
	checkWritten(t, whole, ofName())
	for _, s := range []string{"$", "$i", "$in", "$ini", "$inits", "$init0", "$init ", "$$init", "$Init", "$INIT", "$iniT", "$clinit", " $init", "[$init", "[[$init", "a$init", "A$init", "$init$", "$init\x00", "init$", "$init[", "$initial", "$ınit"} {
		checkWritten(t, s, answers{})
	}
	for at := range whole {
		check(t, whole[:at]+whole[at+1:])
		for x := range 256 {
			one := string([]byte{byte(x)})
			check(t, whole[:at]+one+whole[at+1:])
			check(t, whole[:at]+one+whole[at:])
			check(t, whole+one)
		}
	}
}

// Every text of the letters that a rule hangs on, up to a length.
func TestAllShortTexts(t *testing.T) {
	const letters = "[IVAa9$"
	round := []string{""}
	for range 6 {
		var next []string
		for _, s := range round {
			check(t, s)
			for i := range len(letters) {
				next = append(next, s+letters[i:i+1])
			}
		}
		round = next
	}
	for _, s := range round {
		check(t, s)
	}
}

func TestLongTexts(t *testing.T) {
	for _, size := range []int{255, 256, 257, 258, 264, 65536, 65538, 1 << 20, 5_000_000} {
		for _, s := range []string{strings.Repeat("A", size), strings.Repeat("a", size), strings.Repeat("[", size), strings.Repeat("[", size) + "I", "[" + strings.Repeat("A", size), strings.Repeat("\x00", size), strings.Repeat("$init", size/5)} {
			if g := got(s); g != (answers{}) {
				t.Errorf("%d bytes, %.8q..: %#v", len(s), s, g)
			}
		}
	}
}

// Array and Elem undo each other, and an array is a reference whatever it is of.
func TestArrayAndElem(t *testing.T) {
	for _, s := range []string{"I", "Ab", "Abcdefgh", "[I", "[Ab", "[Abcdefgh", "V", "", "[V", "[[I", "[[Ab", "A", "ab", "$init", "[[[I"} {
		whole := kind.Array(s)
		if whole == "" {
			continue
		}
		if elem, ok := kind.Elem(whole); elem != s || !ok {
			t.Errorf("Elem(Array(%q)) = %q, %v", s, elem, ok)
		}
		if !kind.May(whole) || !kind.Ret(whole) || !kind.Ref(whole) || kind.Class(whole) || kind.Name(whole) {
			t.Errorf("Array(%q) = %q, which is no reference", s, whole)
		}
	}
	for _, s := range []string{"V", "", "[V", "[", "[[", "[[I", "[[Ab", "A", "ab", "$init", "[[[I", "Abcdefghi"} {
		if whole := kind.Array(s); whole != "" {
			t.Errorf("Array(%q) = %q; want none", s, whole)
		}
	}
	for _, s := range []string{"", "I", "V", "Ab", "ab", "$init", "[", "[V", "[[", "[[V", "[[[I", "[[[Ab", "[A", "[ab", "[$init", "[Abcdefghi"} {
		if elem, ok := kind.Elem(s); elem != "" || ok {
			t.Errorf("Elem(%q) = %q, %v; want none", s, elem, ok)
		}
	}
}

// What was asked before is not seen in a later answer.
func TestNothingIsKept(t *testing.T) {
	list := []string{"I", "V", "Ab", "[Ab", "[[Ab", "$init", "a", "", "["}
	for _, first := range list {
		for _, second := range list {
			got(first)
			check(t, second)
		}
	}
}

func FuzzKind(f *testing.F) {
	for _, s := range []string{"", "I", "V", "Ab", "abc", "$init", "[", "[[", "[I", "[[I", "[[[I", "[[Abcdefgh", "[[Abcdefghi", "é"} {
		f.Add(s)
	}
	f.Fuzz(check)
}
