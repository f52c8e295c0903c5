package file_test

import (
	"bytes"
	"encoding/hex"
	"fmt"
	"slices"
	"strconv"
	"strings"
	"testing"

	"daguerre/api"
	"daguerre/class"
	"daguerre/file"
	"daguerre/num"
)

// The sorts of what stands in a class's bytes.
const (
	aNumber = iota
	aCount
	aTruth
	aPlace
)

// part is one number of a class's bytes behind the pool.
type part struct {
	sort int
	n    int64
}

// sheet is a class's bytes ahead of being bytes, so that a test can change one thing in it. It has a class that may not be, too.
type sheet struct {
	opening string
	pool    []string
	parts   []part
}

func (s *sheet) put(sort, n int) { s.parts = append(s.parts, part{sort, int64(n)}) }

func (s *sheet) truth(t bool) {
	n := 0
	if t {
		n = 1
	}
	s.put(aTruth, n)
}

func (s *sheet) texts(list ...string) {
	for _, x := range list {
		if !slices.Contains(s.pool, x) {
			s.pool = append(s.pool, x)
		}
		s.put(aPlace, slices.Index(s.pool, x))
	}
}

func (s *sheet) textList(list []string) {
	s.put(aCount, len(list))
	s.texts(list...)
}

func (s *sheet) method(m api.Method) {
	s.texts(m.Name)
	s.textList(m.Params)
	s.texts(m.Ret)
	s.truth(m.Static)
	s.truth(m.Abstract)
	s.put(aNumber, m.Locals)
	s.put(aNumber, m.Stack)
	s.put(aCount, len(m.Code))
	for _, x := range m.Code {
		s.put(aNumber, x.Op)
		s.put(aNumber, x.A)
		s.texts(x.C, x.M)
	}
	s.put(aCount, len(m.Maps))
	for _, x := range m.Maps {
		s.put(aNumber, x.At)
		s.textList(x.Locals)
		s.textList(x.Stack)
	}
	s.put(aCount, len(m.Traps))
	for _, x := range m.Traps {
		s.put(aNumber, x.From)
		s.put(aNumber, x.To)
		s.put(aNumber, x.At)
		s.texts(x.C)
	}
}

// sheetOf follows the chapter's words, of any class.
func sheetOf(c api.Class) *sheet {
	s := &sheet{opening: "JAVA"}
	s.texts(c.Name, c.Super)
	s.truth(c.Interface)
	s.textList(c.Impl)
	s.put(aCount, len(c.Fields))
	for _, f := range c.Fields {
		s.texts(f.Name, f.Type)
		s.truth(f.Static)
	}
	s.put(aCount, len(c.Methods))
	for _, m := range c.Methods {
		s.method(m)
	}
	return s
}

func (s *sheet) bytes() []byte {
	return slices.Concat([]byte(s.opening), num.Put(nil, int64(len(s.pool))), s.poolBytes(), s.partBytes())
}

func (s *sheet) poolBytes() []byte {
	var b []byte
	for _, x := range s.pool {
		b = append(b, num.PutText(nil, x)...)
	}
	return b
}

func (s *sheet) partBytes() []byte {
	var b []byte
	for _, p := range s.parts {
		b = append(b, num.Put(nil, p.n)...)
	}
	return b
}

// moved gives the sheet with another pool, and each place as to says.
func (s *sheet) moved(pool []string, to func(place int64) int64) *sheet {
	next := &sheet{opening: s.opening, pool: pool}
	for _, p := range s.parts {
		if p.sort == aPlace {
			p.n = to(p.n)
		}
		next.parts = append(next.parts, p)
	}
	return next
}

func isZero(c api.Class) bool {
	return c.Name == "" && c.Super == "" && !c.Interface && len(c.Impl)+len(c.Fields)+len(c.Methods) == 0
}

// short tells enough of c to know it by.
func short(c api.Class) string { return fmt.Sprintf("%.80s", fmt.Sprint(c)) }

func checkRefused(t *testing.T, what string, b []byte, want api.Errno) {
	t.Helper()
	before := bytes.Clone(b)
	if c, err := file.Decode(b); err != want || !isZero(c) {
		t.Errorf("%s: Decode = %s, %d; want zero, %d", what, short(c), err, want)
	}
	if !bytes.Equal(b, before) {
		t.Errorf("%s: Decode changed its argument", what)
	}
}

// checkBoth holds Encode and Decode of c against its sheet, whatever c is.
func checkBoth(t *testing.T, what string, c api.Class) {
	t.Helper()
	want := sheetOf(c).bytes()
	switch got := file.Encode(c); {
	case !class.May(c):
		if got != nil {
			t.Errorf("%s: Encode gave %d bytes; it may not be", what, len(got))
		}
		if len(want) <= 6000 {
			checkRefused(t, what, want, api.ErrForm)
		}
	case len(want) > 6000:
		if got != nil {
			t.Errorf("%s: Encode gave %d bytes; want nil", what, len(got))
		}
	default:
		if !bytes.Equal(got, want) {
			t.Errorf("%s: Encode = % .200x; want % .200x", what, got, want)
		}
		if d, err := file.Decode(want); err != api.OK || !class.Eq(d, c) {
			t.Errorf("%s: Decode = %s, %d; want what was written", what, short(d), err)
		}
	}
	if len(want) > 6000 {
		checkRefused(t, what, want, api.ErrLimit)
	}
}

// checkSound: whatever Decode takes are the bytes of what it answers; all else is ErrForm. It tells whether b was taken.
func checkSound(t *testing.T, what string, b []byte) bool {
	t.Helper()
	c, err := file.Decode(b)
	if err != api.OK {
		checkRefused(t, what, b, api.ErrForm)
		return false
	}
	if !class.May(c) || !bytes.Equal(sheetOf(c).bytes(), b) || !bytes.Equal(file.Encode(c), b) {
		t.Errorf("%s: Decode took % .200x, which are not its class's", what, b)
	}
	return true
}

// unhex reads bytes written out with blanks and line ends between them.
func unhex(t *testing.T, s string) []byte {
	t.Helper()
	b, err := hex.DecodeString(strings.Join(strings.Fields(s), ""))
	if err != nil {
		t.Fatal(err)
	}
	return b
}

func many[T any](n int, one func(i int) T) []T {
	list := make([]T, 0, n)
	for i := range n {
		list = append(list, one(i))
	}
	return list
}

func same[T any](n int, x T) []T { return slices.Repeat([]T{x}, n) }

func memberName(i int) string { return "m" + strconv.Itoa(i) }

func className(i int) string { return "C" + strconv.Itoa(i) }

func runs(name string, n int) api.Method {
	return api.Method{Name: name, Ret: "V", Static: true, Code: same(n, api.Ins{Op: api.ORet})}
}

// whole gives a class that has some of all that a class has. Its texts are asked for more than once, and by unlike parts.
func whole() api.Class {
	return api.Class{
		Name: "Ab", Super: "Xy",
		Impl:   []string{"Xy", "If"},
		Fields: []api.Field{{Name: "next", Type: "Ab"}, {Name: "n", Type: "[I", Static: true}},
		Methods: []api.Method{
			{
				Name: "n", Params: []string{"I", "Ab"}, Ret: "I", Locals: 4, Stack: 2,
				Code:  []api.Ins{{Op: api.OConst, A: -300}, {Op: api.OGetf, C: "Ab", M: "next"}, {Op: api.OIret}},
				Maps:  []api.Map{{At: 1, Locals: []string{"Ab", "I", "Ab", "T"}, Stack: []string{"N"}}},
				Traps: []api.Trap{{From: 0, To: 2, At: 2, C: "Xy"}, {From: 1, To: 3, At: 0}},
			},
			runs("$init", 1),
		},
	}
}

func face() api.Class {
	return api.Class{
		Name: "If", Super: "Object", Interface: true,
		Impl: []string{"Ab"},
		Methods: []api.Method{
			{Name: "f", Params: []string{"If", "I"}, Ret: "I", Abstract: true},
			{Name: "g", Ret: "V", Abstract: true},
		},
	}
}

// wide gives a class with more than 64 texts, so that their places and their number take two bytes, and a count, a number and a length of a list that do.
func wide() api.Class {
	m := runs("f", 100)
	for i := range 99 {
		m.Code[i] = api.Ins{Op: api.OGets, C: className(i), M: memberName(98 - i)}
	}
	m.Code[7] = api.Ins{Op: api.OGoto, A: 99}
	m.Maps = many(99, func(i int) api.Map { return api.Map{At: i + 1} })
	m.Traps = []api.Trap{{From: 63, To: 64, At: 65, C: "C98"}, {From: 98, To: 100, At: 99}}
	return api.Class{Name: "Ab", Super: "C98", Methods: []api.Method{m}}
}

// sized gives a class of just n bytes, from 4,000 to 6,100.
func sized(t *testing.T, n int) api.Class {
	t.Helper()
	c := api.Class{Name: "Ab", Super: "Object", Methods: many(8, func(i int) api.Method { return runs(memberName(i), 100) })}
	left := n - len(sheetOf(c).bytes())
	for i := range c.Methods {
		code := c.Methods[i].Code
		for k := range 99 {
			more := max(0, min(left, 4))
			code[k] = api.Ins{Op: api.OConst, A: []int{0, 64, 1 << 13, 1 << 20, 1 << 27}[more]}
			left -= more
		}
	}
	if size := len(sheetOf(c).bytes()); size != n || !class.May(c) {
		t.Fatalf("the class has %d bytes, not %d, or may not be", size, n)
	}
	return c
}

// longest gives a class of just 6,000 bytes of which the texts take nearly all.
func longest(t *testing.T) api.Class {
	t.Helper()
	one := func(i int) string { return "Abcde" + strconv.Itoa(100+i) }
	c := api.Class{Name: "Ab", Super: "Object", Methods: many(8, func(i int) api.Method { return runs(memberName(i), 60) })}
	for i := 0; len(sheetOf(c).bytes()) <= 6000-16; i++ {
		c.Methods[i/59].Code[i%59] = api.Ins{Op: api.ONew, C: one(i)}
	}
	m := &c.Methods[7]
	for len(sheetOf(c).bytes()) < 6000-4 {
		m.Code = append(m.Code, api.Ins{Op: api.ORet})
	}
	m.Code[0] = api.Ins{Op: api.OConst, A: []int{0, 64, 1 << 13, 1 << 20, 1 << 27}[6000-len(sheetOf(c).bytes())]}
	if size := len(sheetOf(c).bytes()); size != 6000 || !class.May(c) {
		t.Fatalf("the class has %d bytes, not 6,000, or may not be", size)
	}
	return c
}

func classes(t *testing.T) map[string]api.Class {
	t.Helper()
	return map[string]api.Class{
		"whole":            whole(),
		"face":             face(),
		"wide":             wide(),
		"two names":        {Name: "Ab", Super: "Xy"},
		"one name":         {Name: "Ab", Super: "Ab", Impl: []string{"Ab"}},
		"bare interface":   {Name: "Ab", Super: "Object", Interface: true},
		"great letters":    {Name: "II", Super: "VV", Fields: []api.Field{{Name: "i", Type: "I"}, {Name: "v", Type: "II"}}},
		"of 4,000 bytes":   sized(t, 4000),
		"of 6,000 bytes":   sized(t, 6000),
		"of 6,000 in text": longest(t),
	}
}
