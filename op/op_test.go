package op_test

import (
	"bytes"
	"math"
	"slices"
	"strings"
	"testing"

	"daguerre/api"
	"daguerre/num"
	"daguerre/op"
)

// What an instruction names.
const (
	none  = ""
	word  = "a number"
	local = "a local"
	place = "a place"
	class = "a class"
	ref   = "a reference's type"
	both  = "a class and a name"
)

// row says of one instruction what the chapter says of it.
type row struct {
	op    int
	names string
	jumps bool
	ends  bool
}

// rows has each number written out, so that it leans on no order among them.
func rows() []row {
	return []row{
		{api.OConst, word, false, false},
		{api.ONull, none, false, false},
		{api.OLoad, local, false, false},
		{api.OStore, local, false, false},
		{api.OPop, none, false, false},
		{api.ODup, none, false, false},
		{api.OSwap, none, false, false},
		{api.OAdd, none, false, false},
		{api.OSub, none, false, false},
		{api.OMul, none, false, false},
		{api.ODiv, none, false, false},
		{api.ORem, none, false, false},
		{api.ONeg, none, false, false},
		{api.OAnd, none, false, false},
		{api.OOr, none, false, false},
		{api.OXor, none, false, false},
		{api.OShl, none, false, false},
		{api.OShr, none, false, false},
		{api.OUshr, none, false, false},
		{api.OGoto, place, true, true},
		{api.OIfeq, place, true, false},
		{api.OIfne, place, true, false},
		{api.OIflt, place, true, false},
		{api.OIfge, place, true, false},
		{api.OIfgt, place, true, false},
		{api.OIfle, place, true, false},
		{api.OCmpeq, place, true, false},
		{api.OCmpne, place, true, false},
		{api.OCmplt, place, true, false},
		{api.OCmpge, place, true, false},
		{api.OCmpgt, place, true, false},
		{api.OCmple, place, true, false},
		{api.ONil, place, true, false},
		{api.OSome, place, true, false},
		{api.OSame, place, true, false},
		{api.OOther, place, true, false},
		{api.ONew, class, false, false},
		{api.OGetf, both, false, false},
		{api.OPutf, both, false, false},
		{api.OGets, both, false, false},
		{api.OPuts, both, false, false},
		{api.OCalls, both, false, false},
		{api.OCallv, both, false, false},
		{api.OCallx, both, false, false},
		{api.OCalli, both, false, false},
		{api.ORet, none, false, true},
		{api.OIret, none, false, true},
		{api.OAret, none, false, true},
		{api.ONewi, none, false, false},
		{api.ONewa, ref, false, false},
		{api.OLen, none, false, false},
		{api.OIload, none, false, false},
		{api.OIstor, none, false, false},
		{api.OAload, none, false, false},
		{api.OAstor, none, false, false},
		{api.OCast, ref, false, false},
		{api.OInst, ref, false, false},
		{api.OThrow, none, false, true},
		{api.OIn, none, false, false},
		{api.OOut, none, false, false},
		{api.OExit, none, false, true},
	}
}

// numbersOfNone are no instruction's.
func numbersOfNone() []int {
	list := []int{math.MinInt, math.MinInt + 1, math.MinInt32, math.MaxInt32, math.MaxInt, math.MaxInt - 1, 1 << 32, 1<<32 + 1, 1<<32 + 20, 1<<62 + 46}
	for n := -300; n <= 300; n++ {
		if n < 1 || n > 61 {
			list = append(list, n)
		}
	}
	return list
}

// The lists of what each part may be, and of what is near it and may not.

func words() ([]int, []int) {
	return []int{-2147483648, -2147483647, -1000000, -100, -16, -1, 0, 1, 15, 16, 99, 100, 1000000, 2147483646, 2147483647},
		[]int{-2147483649, -2147483650, 2147483648, 2147483649, 1 << 32, -1 << 32, 1<<32 + 1, 1 << 62, math.MinInt, math.MaxInt}
}

func locals() ([]int, []int) {
	may := []int{0, 1, 2, 3, 4, 5, 6, 7, 8, 9, 10, 11, 12, 13, 14, 15}
	return may, []int{-1, -2, -15, -16, 16, 17, 31, 99, 100, 255, 256, 65536, 1 << 31, 1 << 32, -1 << 32, 1<<32 + 1, math.MinInt, math.MaxInt}
}

func places() ([]int, []int) {
	var may []int
	for n := range 100 {
		may = append(may, n)
	}
	return may, []int{-1, -2, -99, -100, 100, 101, 127, 128, 199, 255, 256, 65536, 1 << 31, 1 << 32, -1 << 32, 1<<32 + 1, math.MinInt, math.MaxInt}
}

func onlyZero() ([]int, []int) {
	return []int{0}, []int{-1, 1, 2, 15, 16, 99, 100, 1 << 31, 1 << 32, -1 << 32, math.MinInt, math.MaxInt}
}

func classes() []string { return []string{"Ab", "II", "VV", "A0", "Object", "Abcdefgh"} }

func arrays() []string {
	return []string{"[I", "[[I", "[Ab", "[[Ab", "[Abcdefgh", "[[Abcdefgh"}
}

func noTypes() []string {
	return []string{"I", "V", "N", "T", "A", "a", "ab", "abcdefgh", "$init", "Abcdefghi", "[", "[[", "[V", "[A", "[[V", "[[[I", "[[[Ab", "[Abcdefghi", "[[Abcdefghi", "[$init", "Ab ", " Ab", "A_", "9A", "Aé", "\x00", "Ab\x00", strings.Repeat("A", 5000)}
}

func names() []string { return []string{"a", "f", "i", "v", "init", "aB9", "a0", "abcdefgh"} }

func noNames() []string {
	return []string{"$init", "$", "$ini", "$inits", "A", "Ab", "I", "V", "9a", "abcdefghi", "a_", "a ", " a", "aé", "[I", "[Ab", "[a", "\x00", "a\x00", strings.Repeat("a", 5000)}
}

func numbersOf(names string) (may, not []int) {
	switch names {
	case word:
		return words()
	case local:
		return locals()
	case place:
		return places()
	}
	return onlyZero()
}

func typesOf(names string) (may, not []string) {
	switch names {
	case class, both:
		return classes(), slices.Concat([]string{""}, arrays(), noTypes())
	case ref:
		return slices.Concat(classes(), arrays()), slices.Concat([]string{""}, noTypes())
	}
	return []string{""}, slices.Concat(classes(), arrays(), noTypes())
}

func namesOf(kind string) (may, not []string) {
	if kind == both {
		return names(), slices.Concat([]string{""}, noNames())
	}
	return []string{""}, slices.Concat(names(), noNames())
}

// good gives each instruction that the lists above make.
func good(r row) []api.Ins {
	var list []api.Ins
	numbers, _ := numbersOf(r.names)
	types, _ := typesOf(r.names)
	members, _ := namesOf(r.names)
	for _, a := range numbers {
		for _, c := range types {
			for _, m := range members {
				list = append(list, api.Ins{Op: r.op, A: a, C: c, M: m})
			}
		}
	}
	return list
}

// bytesOf writes the parts that the row names, whether they may be or not.
func bytesOf(r row, x api.Ins) []byte {
	b := num.Put(nil, int64(x.Op))
	switch r.names {
	case word, local, place:
		b = num.Put(b, int64(x.A))
	case class, ref:
		b = num.PutText(b, x.C)
	case both:
		b = num.PutText(num.PutText(b, x.C), x.M)
	}
	return b
}

func checkMay(t *testing.T, x api.Ins, want bool) {
	t.Helper()
	if got := op.May(x); got != want {
		t.Fatalf("May(%.60v) = %v; want %v", x, got, want)
	}
}

func checkGet(t *testing.T, b []byte, want api.Ins, size int, wantErr api.Errno) {
	t.Helper()
	before := bytes.Clone(b)
	x, k, err := op.Get(b)
	if x != want || k != size || err != wantErr {
		t.Fatalf("Get(% .40x) = %.60v, %d, %d; want %.60v, %d, %d", b, x, k, err, want, size, wantErr)
	}
	if !bytes.Equal(b, before) {
		t.Fatalf("Get(% .40x) changed its argument", before)
	}
}

func checkRefused(t *testing.T, b []byte, want api.Errno) {
	t.Helper()
	checkGet(t, b, api.Ins{}, 0, want)
}

func TestRowsAreApis(t *testing.T) {
	for i, r := range rows() {
		if r.op != i+1 {
			t.Errorf("row %d has the number %d", i, r.op)
		}
	}
	if n := len(rows()); n != 61 {
		t.Errorf("%d rows", n)
	}
}

func TestJumpsAndEndsOfEach(t *testing.T) {
	for _, r := range rows() {
		if op.Jumps(r.op) != r.jumps || op.Ends(r.op) != r.ends {
			t.Errorf("%d: Jumps %v, Ends %v; want %v, %v", r.op, op.Jumps(r.op), op.Ends(r.op), r.jumps, r.ends)
		}
	}
	for _, n := range numbersOfNone() {
		if op.Jumps(n) || op.Ends(n) {
			t.Errorf("%d: Jumps %v, Ends %v; want neither", n, op.Jumps(n), op.Ends(n))
		}
	}
}

func TestMayOfEach(t *testing.T) {
	for _, r := range rows() {
		for _, x := range good(r) {
			checkMay(t, x, true)
		}
	}
}

// One part that may not be is enough, whatever the others are.
func TestMayWithOnePartWrong(t *testing.T) {
	for _, r := range rows() {
		_, numbers := numbersOf(r.names)
		_, types := typesOf(r.names)
		_, members := namesOf(r.names)
		all := good(r)
		for _, x := range []api.Ins{all[0], all[len(all)/2], all[len(all)-1]} {
			for _, a := range numbers {
				checkMay(t, api.Ins{Op: x.Op, A: a, C: x.C, M: x.M}, false)
			}
			for _, c := range types {
				checkMay(t, api.Ins{Op: x.Op, A: x.A, C: c, M: x.M}, false)
			}
			for _, m := range members {
				checkMay(t, api.Ins{Op: x.Op, A: x.A, C: x.C, M: m}, false)
			}
		}
	}
}

func TestMayOfNoInstruction(t *testing.T) {
	for _, n := range numbersOfNone() {
		for _, x := range []api.Ins{{}, {A: 1}, {C: "Ab"}, {C: "[I"}, {C: "Ab", M: "f"}, {A: 1, C: "Ab", M: "f"}} {
			x.Op = n
			checkMay(t, x, false)
		}
	}
}

// An instruction that names A takes 0, too: zero is no sign that there is none.
func TestBoundsWrittenOut(t *testing.T) {
	for _, c := range []struct {
		x    api.Ins
		want bool
	}{
		{api.Ins{Op: 1, A: -2147483648}, true},
		{api.Ins{Op: 1, A: -2147483649}, false},
		{api.Ins{Op: 1, A: 2147483647}, true},
		{api.Ins{Op: 1, A: 2147483648}, false},
		{api.Ins{Op: 1}, true},
		{api.Ins{Op: 1, C: "Ab"}, false},
		{api.Ins{Op: 1, M: "f"}, false},
		{api.Ins{Op: 2}, true},
		{api.Ins{Op: 2, A: 1}, false},
		{api.Ins{Op: 2, C: "Ab"}, false},
		{api.Ins{Op: 3, A: 15}, true},
		{api.Ins{Op: 3, A: 16}, false},
		{api.Ins{Op: 4, A: 15}, true},
		{api.Ins{Op: 4, A: 16}, false},
		{api.Ins{Op: 4, A: -1}, false},
		{api.Ins{Op: 5, A: 1}, false},
		{api.Ins{Op: 19, A: 1}, false},
		{api.Ins{Op: 20, A: 99}, true},
		{api.Ins{Op: 20, A: 100}, false},
		{api.Ins{Op: 36, A: 99}, true},
		{api.Ins{Op: 36, A: 100}, false},
		{api.Ins{Op: 36, A: -1}, false},
		{api.Ins{Op: 37, C: "Ab"}, true},
		{api.Ins{Op: 37, C: "[Ab"}, false},
		{api.Ins{Op: 37, C: "I"}, false},
		{api.Ins{Op: 37}, false},
		{api.Ins{Op: 37, C: "Ab", M: "f"}, false},
		{api.Ins{Op: 37, C: "Ab", A: 1}, false},
		{api.Ins{Op: 38, C: "Ab", M: "f"}, true},
		{api.Ins{Op: 38, C: "Ab"}, false},
		{api.Ins{Op: 38, M: "f"}, false},
		{api.Ins{Op: 41, C: "[I", M: "f"}, false},
		{api.Ins{Op: 42, C: "Ab", M: "$init"}, false},
		{api.Ins{Op: 45, C: "Ab", M: "abcdefgh"}, true},
		{api.Ins{Op: 45, C: "Ab", M: "abcdefghi"}, false},
		{api.Ins{Op: 46, C: "Ab"}, false},
		{api.Ins{Op: 49, C: "[I"}, false},
		{api.Ins{Op: 50, C: "I"}, false},
		{api.Ins{Op: 50, C: "[I"}, true},
		{api.Ins{Op: 50, C: "[[I"}, true},
		{api.Ins{Op: 50, C: "[[[I"}, false},
		{api.Ins{Op: 56, C: "Ab"}, true},
		{api.Ins{Op: 56, C: "Ab", M: "f"}, false},
		{api.Ins{Op: 57, C: "[[Ab"}, true},
		{api.Ins{Op: 57}, false},
		{api.Ins{Op: 61}, true},
		{api.Ins{Op: 62}, false},
		{api.Ins{Op: 0}, false},
		{api.Ins{Op: -1}, false},
	} {
		checkMay(t, c.x, c.want)
	}
}

func TestBytesWrittenOut(t *testing.T) {
	for _, c := range []struct {
		x    api.Ins
		want string
	}{
		{api.Ins{Op: 1}, "\x02\x00"},
		{api.Ins{Op: 1, A: 300}, "\x02\xd8\x04"},
		{api.Ins{Op: 1, A: -1}, "\x02\x01"},
		{api.Ins{Op: 1, A: 2147483647}, "\x02\xfe\xff\xff\xff\x0f"},
		{api.Ins{Op: 1, A: -2147483648}, "\x02\xff\xff\xff\xff\x0f"},
		{api.Ins{Op: 2}, "\x04"},
		{api.Ins{Op: 3}, "\x06\x00"},
		{api.Ins{Op: 4, A: 15}, "\x08\x1e"},
		{api.Ins{Op: 8}, "\x10"},
		{api.Ins{Op: 20}, "\x28\x00"},
		{api.Ins{Op: 36, A: 99}, "\x48\xc6\x01"},
		{api.Ins{Op: 37, C: "Ab"}, "\x4a\x04Ab"},
		{api.Ins{Op: 38, C: "Ab", M: "f"}, "\x4c\x04Ab\x02f"},
		{api.Ins{Op: 45, C: "Abcdefgh", M: "abcdefgh"}, "\x5a\x10Abcdefgh\x10abcdefgh"},
		{api.Ins{Op: 46}, "\x5c"},
		{api.Ins{Op: 49}, "\x62"},
		{api.Ins{Op: 50, C: "[I"}, "\x64\x04[I"},
		{api.Ins{Op: 56, C: "[[Ab"}, "\x70\x08[[Ab"},
		{api.Ins{Op: 57, C: "Ab"}, "\x72\x04Ab"},
		{api.Ins{Op: 61}, "\x7a"},
	} {
		if got := op.Put(nil, c.x); string(got) != c.want {
			t.Errorf("Put(nil, %v) = % x; want % x", c.x, got, c.want)
		}
		if got := op.Put([]byte("ahead"), c.x); string(got) != "ahead"+c.want {
			t.Errorf("Put(ahead, %v) = % x; want % x behind it", c.x, got, c.want)
		}
		checkGet(t, []byte(c.want), c.x, len(c.want), api.OK)
	}
}

// What stands behind an instruction is not looked at; each front of its bytes ends in it.
func TestPutAndGetOfEach(t *testing.T) {
	tails := []string{"", "\x00", "\x80", "\x02\x00", strings.Repeat("\xff", 20)}
	aheads := []string{"", "\x00", "\xff", "\x02", "ahead", strings.Repeat("x", 300)}
	for _, r := range rows() {
		for _, x := range good(r) {
			want := bytesOf(r, x)
			for _, ahead := range aheads {
				if got := op.Put([]byte(ahead), x); string(got) != ahead+string(want) {
					t.Fatalf("Put(%q, %v) = % x; want % x behind it", ahead, x, got, want)
				}
			}
			for _, tail := range tails {
				checkGet(t, append(bytes.Clone(want), tail...), x, len(want), api.OK)
			}
			for size := range want {
				checkRefused(t, want[:size], api.ErrMore)
				checkRefused(t, bytes.Clone(want[:size]), api.ErrMore)
			}
		}
	}
}

// What may not be has no bytes: there are none that Get would take.
func TestPutOfWhatMayNotBe(t *testing.T) {
	for _, x := range []api.Ins{{}, {Op: -1}, {Op: 62}, {Op: math.MinInt}, {Op: math.MaxInt}, {Op: 2, A: 1}, {Op: 3, A: 16}, {Op: 1, A: 1 << 31}, {Op: 37}, {Op: 37, C: "I"}, {Op: 38, C: "Ab"}, {Op: 38, C: "Ab", M: "$init"}, {Op: 46, C: "Ab"}} {
		for _, b := range [][]byte{nil, {}, []byte("ahead")} {
			if got := op.Put(b, x); got != nil {
				t.Errorf("Put(%q, %v) = % x; want nil", b, x, got)
			}
		}
	}
}

func TestGetOfNothing(t *testing.T) {
	checkRefused(t, nil, api.ErrMore)
	checkRefused(t, []byte{}, api.ErrMore)
	checkRefused(t, []byte("\x02\x00")[:0], api.ErrMore)
}

func TestGetOfNoInstruction(t *testing.T) {
	for _, n := range numbersOfNone() {
		for _, tail := range []string{"", "\x00", "\x80", "\x04Ab", "\x04Ab\x02f", strings.Repeat("\xff", 20)} {
			checkRefused(t, append(num.Put(nil, int64(n)), tail...), api.ErrForm)
		}
	}
}

// noNumbers have one form each that num refuses, or end within one.
func noNumbers() map[string]api.Errno {
	return map[string]api.Errno{
		"":                                  api.ErrMore,
		"\x80":                              api.ErrMore,
		"\x82":                              api.ErrMore,
		strings.Repeat("\x80", 9):           api.ErrMore,
		strings.Repeat("\xff", 9):           api.ErrMore,
		"\x80\x00":                          api.ErrForm,
		"\x82\x00":                          api.ErrForm,
		"\x84\x80\x00":                      api.ErrForm,
		strings.Repeat("\x80", 9) + "\x00":  api.ErrForm,
		strings.Repeat("\x80", 9) + "\x02":  api.ErrForm,
		strings.Repeat("\xff", 10):          api.ErrForm,
		strings.Repeat("\xff", 9) + "\x02":  api.ErrForm,
		strings.Repeat("\xff", 70000):       api.ErrForm,
		strings.Repeat("\x80", 9) + "\x80z": api.ErrForm,
	}
}

// noTexts have a length that num refuses, or end within the text.
func noTexts() map[string]api.Errno {
	list := noNumbers()
	list["\x02"] = api.ErrMore
	list["\x04A"] = api.ErrMore
	list["\x10Abcdefg"] = api.ErrMore
	list[string(num.Put(nil, 1<<20))] = api.ErrMore
	list[string(num.Put(nil, 1<<20))+"Ab"] = api.ErrMore
	for _, n := range []int64{-1, -2, math.MinInt64, 1<<20 + 1, 1 << 31, 1 << 32, 1<<32 + 2, math.MaxInt64} {
		list[string(num.Put(nil, n))] = api.ErrForm
		list[string(num.Put(nil, n))+"Ab"] = api.ErrForm
	}
	return list
}

func TestGetOfNoNumberAsOp(t *testing.T) {
	for b, err := range noNumbers() {
		checkRefused(t, []byte(b), err)
	}
}

func TestGetOfWrongNumber(t *testing.T) {
	for _, r := range rows() {
		if r.names != word && r.names != local && r.names != place {
			continue
		}
		head := string(num.Put(nil, int64(r.op)))
		for b, err := range noNumbers() {
			checkRefused(t, []byte(head+b), err)
		}
		_, wrong := numbersOf(r.names)
		for _, a := range wrong {
			for _, tail := range []string{"", "\x00", "\x80", "\x04Ab"} {
				checkRefused(t, append(bytesOf(r, api.Ins{Op: r.op, A: a}), tail...), api.ErrForm)
			}
		}
	}
}

// A class that may not be is told whether a name stands behind it, a piece of one, none, or no text at all.
func TestGetOfWrongType(t *testing.T) {
	for _, r := range rows() {
		if r.names != class && r.names != ref && r.names != both {
			continue
		}
		head := string(num.Put(nil, int64(r.op)))
		for b, err := range noTexts() {
			checkRefused(t, []byte(head+b), err)
		}
		_, wrong := typesOf(r.names)
		for _, c := range wrong {
			whole := head + string(num.PutText(nil, c))
			for _, behind := range []string{"", "\x02", "\x02f", "\x02F", "\x0a$init", "\x80", "\x80\x00", "\x01", "\x02fmore"} {
				checkRefused(t, []byte(whole+behind), api.ErrForm)
			}
			for size := len(head); size < len(whole); size += 1 + size/50 {
				checkRefused(t, []byte(whole[:size]), api.ErrMore)
			}
		}
	}
}

func TestGetOfWrongName(t *testing.T) {
	for _, r := range rows() {
		if r.names != both {
			continue
		}
		for _, c := range classes() {
			head := string(num.PutText(num.Put(nil, int64(r.op)), c))
			for b, err := range noTexts() {
				checkRefused(t, []byte(head+b), err)
			}
			_, wrong := namesOf(r.names)
			for _, m := range wrong {
				whole := head + string(num.PutText(nil, m))
				for _, behind := range []string{"", "\x00", "\x80", "more"} {
					checkRefused(t, []byte(whole+behind), api.ErrForm)
				}
				for size := len(head); size < len(whole); size += 1 + size/50 {
					checkRefused(t, []byte(whole[:size]), api.ErrMore)
				}
			}
		}
	}
}

// A text as long as num reads one is still no class and no name.
func TestGetOfLongestTexts(t *testing.T) {
	long := strings.Repeat("a", 1<<20)
	checkRefused(t, num.PutText([]byte("\x4a"), long), api.ErrForm)
	checkRefused(t, num.PutText([]byte("\x70"), long), api.ErrForm)
	checkRefused(t, num.PutText([]byte("\x4c\x04Ab"), long), api.ErrForm)
	checkRefused(t, num.PutText([]byte("\x4c\x04Ab"), long)[:1<<20], api.ErrMore)
}

// wantGet goes through the parts in the chapter's words, by what num says of each and by what the lists above say of it.
func wantGet(b []byte) (api.Ins, int, api.Errno) {
	n, at, err := num.Get(b)
	if err != api.OK {
		return api.Ins{}, 0, err
	}
	if n < 1 || n > 61 {
		return api.Ins{}, 0, api.ErrForm
	}
	x := api.Ins{Op: int(n)}
	names := rows()[n-1].names
	if bounds, ok := map[string][2]int64{word: {-1 << 31, 1<<31 - 1}, local: {0, 15}, place: {0, 99}}[names]; ok {
		a, k, err := num.Get(b[at:])
		if err != api.OK {
			return api.Ins{}, 0, err
		}
		if a < bounds[0] || a > bounds[1] {
			return api.Ins{}, 0, api.ErrForm
		}
		x.A, at = int(a), at+k
	}
	if names == class || names == ref || names == both {
		c, k, err := num.GetText(b[at:])
		if err != api.OK {
			return api.Ins{}, 0, err
		}
		if !isClass(c) && !(names == ref && isArray(c)) {
			return api.Ins{}, 0, api.ErrForm
		}
		x.C, at = c, at+k
	}
	if names == both {
		m, k, err := num.GetText(b[at:])
		if err != api.OK {
			return api.Ins{}, 0, err
		}
		if len(m) < 1 || len(m) > 8 || m[0] < 'a' || m[0] > 'z' || !plain(m) {
			return api.Ins{}, 0, api.ErrForm
		}
		x.M, at = m, at+k
	}
	return x, at, api.OK
}

func plain(s string) bool {
	return strings.Trim(s, "ABCDEFGHIJKLMNOPQRSTUVWXYZabcdefghijklmnopqrstuvwxyz0123456789") == ""
}

func isClass(s string) bool {
	return len(s) >= 2 && len(s) <= 8 && s[0] >= 'A' && s[0] <= 'Z' && plain(s)
}

func isArray(s string) bool {
	inner, ok := strings.CutPrefix(s, "[")
	inner = strings.TrimPrefix(inner, "[")
	return ok && (inner == "I" || isClass(inner))
}

func checkAny(t *testing.T, b []byte) {
	t.Helper()
	x, size, err := wantGet(b)
	checkGet(t, b, x, size, err)
	if err != api.OK {
		return
	}
	checkMay(t, x, true)
	if got := op.Put(nil, x); !bytes.Equal(got, b[:size]) {
		t.Errorf("Put(nil, %v) = % x; it was read from % x", x, got, b[:size])
	}
}

func TestGetOfAnyShortBytes(t *testing.T) {
	for x := range 256 {
		checkAny(t, []byte{byte(x)})
		for y := range 256 {
			checkAny(t, []byte{byte(x), byte(y)})
			checkAny(t, []byte{byte(x), byte(y), 0})
			checkAny(t, []byte{byte(x), byte(y), 'A', 'b', 2, 'f'})
		}
	}
}

// A byte that is another is seen wherever it stands, with the bytes behind it and without.
func TestGetWithEachByteAnother(t *testing.T) {
	for _, whole := range []string{"\x02\xd8\x04", "\x02\xfe\xff\xff\xff\x0f", "\x02\xff\xff\xff\xff\x0f", "\x06\x1e", "\x08\x00", "\x28\xc6\x01", "\x48\x00", "\x4a\x04Ab", "\x4a\x10Abcdefgh", "\x4c\x04Ab\x02f", "\x54\x04Ab\x0a$init", "\x5a\x10Abcdefgh\x10abcdefgh", "\x64\x04[I", "\x70\x06[[I", "\x72\x14[[Abcdefgh", "\x7a"} {
		for at := range len(whole) {
			b := []byte(whole)
			for x := range 256 {
				b[at] = byte(x)
				checkAny(t, b)
				checkAny(t, append(bytes.Clone(b), "\x02f\x02g"...))
				for size := range b {
					checkAny(t, b[:size])
				}
			}
		}
	}
}

func TestInstructionsBehindOneAnother(t *testing.T) {
	var b []byte
	var list []api.Ins
	for _, r := range rows() {
		x := good(r)[0]
		list = append(list, x)
		b = op.Put(b, x)
	}
	for i, want := range list {
		x, size, err := op.Get(b)
		if x != want || err != api.OK {
			t.Fatalf("instruction %d: %v, %d, %d; want %v", i, x, size, err, want)
		}
		b = b[size:]
	}
	checkRefused(t, b, api.ErrMore)
}

// one gives an instruction of each form.
func one() []api.Ins {
	return []api.Ins{{Op: 1, A: -2147483648}, {Op: 2}, {Op: 3, A: 15}, {Op: 20, A: 99}, {Op: 37, C: "Ab"}, {Op: 45, C: "Abcdefgh", M: "abcdefgh"}, {Op: 56, C: "[[I"}, {Op: 61}}
}

func overwrite(b []byte) {
	b = b[:cap(b)]
	for i := range b {
		b[i] = 0xaa
	}
}

func TestArgumentAndItsSpareRoomStay(t *testing.T) {
	for _, x := range append(one(), api.Ins{}) {
		for size := range 8 {
			room := []byte("0123456789abcdefghijklmnopqrstuvwxyz")
			before := string(room)
			answer := op.Put(room[:size], x)
			if string(room) != before {
				t.Errorf("Put(%d bytes, %v) wrote into its argument: %q", size, x, room)
			}
			overwrite(answer)
			if string(room) != before {
				t.Errorf("Put(%d bytes, %v) answered its argument's memory", size, x)
			}
		}
	}
}

func TestAnswersShareNothing(t *testing.T) {
	for _, x := range one() {
		for _, ahead := range []string{"", "x", "a longer beginning"} {
			b := append(make([]byte, 0, 64), ahead...)
			first, second := op.Put(b, x), op.Put(b, x)
			want := string(second)
			if string(first) != want {
				t.Errorf("Put of %v answered % x, then % x", x, first, second)
			}
			overwrite(first)
			if string(second) != want || string(op.Put(b, x)) != want {
				t.Errorf("Put of %v: writing into one answer changed another", x)
			}
		}
	}
}

func TestGetKeepsNothing(t *testing.T) {
	b := []byte("\x4c\x04Ab\x02f")
	x, _, _ := op.Get(b)
	overwrite(b)
	if x != (api.Ins{Op: 38, C: "Ab", M: "f"}) {
		t.Errorf("the instruction became %v when the bytes were written over", x)
	}
}

func TestNilIsEmpty(t *testing.T) {
	for _, x := range one() {
		if a, b := op.Put(nil, x), op.Put([]byte{}, x); !bytes.Equal(a, b) || len(a) == 0 {
			t.Errorf("Put of %v: nil gives % x, empty % x", x, a, b)
		}
	}
}

func TestLongBeginningsAreKept(t *testing.T) {
	long := bytes.Repeat([]byte("0123456789"), 100000)
	if got := op.Put(long, api.Ins{Op: 38, C: "Ab", M: "f"}); string(got) != string(long)+"\x4c\x04Ab\x02f" {
		t.Error("Put behind a million bytes")
	}
}

func FuzzGet(f *testing.F) {
	for _, x := range one() {
		f.Add(op.Put(nil, x))
	}
	f.Add([]byte("\x4c\x04Ab\x0a$init"))
	f.Add([]byte("\x80\x00"))
	f.Fuzz(checkAny)
}
