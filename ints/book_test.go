package ints_test

import (
	"go/parser"
	"go/token"
	"path/filepath"
	"strings"
	"testing"

	"daguerre/api"
	"daguerre/ints"
)

const (
	half  = int64(1) << 31
	whole = int64(1) << 32
)

// unsigned gives n's rest of 2^32, that is never below nought.
func unsigned(n int64) int64 { return (n%whole + whole) % whole }

// round gives the one number of 32 bits that is n modulo 2^32.
func round(n int64) int32 {
	n = unsigned(n)
	if n >= half {
		n -= whole
	}
	return int32(n)
}

func size(n int64) int64 { return max(n, -n) }

// quotient goes by sizes alone, and puts the sign ahead.
func quotient(a, b int64) int64 {
	if a < 0 != (b < 0) {
		return -(size(a) / size(b))
	}
	return size(a) / size(b)
}

// power gives 2 to the lowest five bits of b.
func power(b int32) int64 {
	p := int64(1)
	for range unsigned(int64(b)) % 32 {
		p *= 2
	}
	return p
}

// below gives the greatest whole number that is not above n / p.
func below(n, p int64) int64 {
	return (n - (n%p+p)%p) / p
}

// bits goes through both numbers' bits one by one.
func bits(a, b int32, is func(x, y int64) bool) int64 {
	sum, m, n := int64(0), unsigned(int64(a)), unsigned(int64(b))
	for value := int64(1); value < whole; value *= 2 {
		if is(m%2, n%2) {
			sum += value
		}
		m, n = m/2, n/2
	}
	return sum
}

// wantTwo reckons with 64 bits and without the language's bits.
func wantTwo(op int, a, b int32) (int32, bool) {
	x, y := int64(a), int64(b)
	switch op {
	case api.OAdd:
		return round(x + y), true
	case api.OSub:
		return round(x - y), true
	case api.OMul:
		return round(x * y), true
	case api.ODiv:
		if y != 0 {
			return round(quotient(x, y)), true
		}
	case api.ORem:
		if y != 0 {
			return round(x - quotient(x, y)*y), true
		}
	case api.OAnd:
		return round(bits(a, b, func(x, y int64) bool { return x+y == 2 })), true
	case api.OOr:
		return round(bits(a, b, func(x, y int64) bool { return x+y > 0 })), true
	case api.OXor:
		return round(bits(a, b, func(x, y int64) bool { return x+y == 1 })), true
	case api.OShl:
		return round(x * power(b)), true
	case api.OShr:
		return round(below(x, power(b))), true
	case api.OUshr:
		return round(below(unsigned(x), power(b))), true
	}
	return 0, false
}

func wantGoes(op int, a, b int32) bool {
	d := int64(a)
	if op >= api.OCmpeq {
		d -= int64(b)
	}
	switch op {
	case api.OIfeq, api.OCmpeq:
		return d == 0
	case api.OIfne, api.OCmpne:
		return d < 0 || d > 0
	case api.OIflt, api.OCmplt:
		return d < 0
	case api.OIfge, api.OCmpge:
		return d > -1
	case api.OIfgt, api.OCmpgt:
		return d > 0
	case api.OIfle, api.OCmple:
		return d < 1
	}
	return false
}

func wantOne(op int, a int32) int32 {
	if op == api.ONeg {
		return round(-int64(a))
	}
	return 0
}

func checkAll(t *testing.T, op int, a, b int32) {
	t.Helper()
	checkOne(t, op, a, wantOne(op, a))
	want, ok := wantTwo(op, a, b)
	checkTwo(t, op, a, b, want, ok)
	checkGoes(t, op, a, b, wantGoes(op, a, b))
}

func TestEachPairOfNumbers(t *testing.T) {
	for _, a := range numbers() {
		for _, b := range numbers() {
			for op := range api.OExit + 2 {
				checkAll(t, op, a, b)
			}
		}
	}
}

func TestEachPairOfSmallNumbers(t *testing.T) {
	for a := int32(-70); a <= 70; a++ {
		for b := int32(-70); b <= 70; b++ {
			for op := range api.OExit + 2 {
				checkAll(t, op, a, b)
			}
		}
	}
}

func TestEachOpThereIs(t *testing.T) {
	list := []int32{0, 1, -1, 2, -3, 40, greatest, least}
	for _, op := range allOps() {
		for _, a := range list {
			for _, b := range list {
				checkAll(t, op, a, b)
			}
		}
	}
}

func TestMadeNumbers(t *testing.T) {
	x := uint64(1)
	next := func() int32 {
		x = x*6364136223846793005 + 1442695040888963407
		// The high bits come round late; a shift of its own makes small numbers and great ones.
		return int32(x>>32) >> (x >> 27 & 31)
	}
	for range 40_000 {
		a, b := next(), next()
		for op := range api.OExit + 2 {
			checkAll(t, op, a, b)
		}
	}
}

func TestNegAllOver(t *testing.T) {
	for a := int64(least); a <= greatest; a += 997 {
		checkOne(t, api.ONeg, int32(a), round(-a))
	}
}

// What a number is made of by quotient and rest is the number.
func TestQuotientAndRestTogether(t *testing.T) {
	for _, a := range numbers() {
		for _, b := range numbers() {
			if b == 0 {
				continue
			}
			q, _ := ints.Two(api.ODiv, a, b)
			r, _ := ints.Two(api.ORem, a, b)
			p, _ := ints.Two(api.OMul, q, b)
			checkTwo(t, api.OAdd, p, r, a, true)
			if size(int64(r)) >= size(int64(b)) || r < 0 && a > 0 || r > 0 && a < 0 {
				t.Fatalf("%d by %d leaves %d", a, b, r)
			}
		}
	}
}

// An answer is the same whatever was asked before it: in order, backwards, and twice in a row.
func TestNothingIsKept(t *testing.T) {
	type answers struct {
		one, two int32
		ok, goes bool
	}
	ask := func(op int, a, b int32) answers {
		two, ok := ints.Two(op, a, b)
		return answers{ints.One(op, a), two, ok, ints.Goes(op, a, b)}
	}
	list := []int32{0, 1, -1, 31, 32, -32, 12345, greatest, least}
	type question struct {
		op   int
		a, b int32
	}
	var asked []question
	first := map[question]answers{}
	for op := -1; op <= api.OExit+1; op++ {
		for _, a := range list {
			for _, b := range list {
				q := question{op, a, b}
				asked, first[q] = append(asked, q), ask(op, a, b)
			}
		}
	}
	for i := range asked {
		q := asked[len(asked)-1-i]
		if again, twice := ask(q.op, q.a, q.b), ask(q.op, q.a, q.b); again != first[q] || twice != first[q] {
			t.Fatalf("%v: %v, then %v and %v", q, first[q], again, twice)
		}
	}
}

// The chapter says that the layer stands on api alone.
func TestStandsOnApiAlone(t *testing.T) {
	files, err := filepath.Glob("*.go")
	if err != nil {
		t.Fatal(err)
	}
	for _, name := range files {
		if strings.HasSuffix(name, "_test.go") {
			continue
		}
		tree, err := parser.ParseFile(token.NewFileSet(), name, nil, parser.ImportsOnly)
		if err != nil {
			t.Fatal(err)
		}
		for _, spec := range tree.Imports {
			if spec.Path.Value != `"daguerre/api"` {
				t.Errorf("%s imports %s", name, spec.Path.Value)
			}
		}
	}
}

func FuzzInts(f *testing.F) {
	f.Add(api.ODiv, int32(least), int32(-1))
	f.Add(api.ORem, int32(5), int32(0))
	f.Add(api.OUshr, int32(-7), int32(33))
	f.Add(-1, int32(0), int32(0))
	f.Fuzz(func(t *testing.T, op int, a, b int32) {
		checkAll(t, op, a, b)
		for each := range api.OExit + 2 {
			checkAll(t, each, a, b)
		}
	})
}
