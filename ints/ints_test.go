package ints_test

import (
	"testing"

	"daguerre/api"
	"daguerre/ints"
)

func TestOneWrittenOut(t *testing.T) {
	for _, x := range []struct{ a, want int32 }{
		{0, 0}, {1, -1}, {-1, 1}, {2, -2}, {-2, 2}, {7, -7}, {-1000, 1000},
		{greatest, -2147483647}, {-2147483647, greatest}, {greatest - 1, -2147483646},
		{least, least}, {least + 1, greatest},
	} {
		checkOne(t, api.ONeg, x.a, x.want)
	}
}

func TestOneOfEveryOtherOp(t *testing.T) {
	for _, op := range opsBeside(api.ONeg) {
		for _, a := range []int32{0, 1, -1, 2, 12345, greatest, least} {
			checkOne(t, op, a, 0)
		}
	}
}

// A row has two numbers, and what is made of them.
type row struct{ a, b, want int32 }

func checkRows(t *testing.T, op int, rows []row) {
	t.Helper()
	for _, x := range rows {
		checkTwo(t, op, x.a, x.b, x.want, true)
	}
}

func TestSumsWrittenOut(t *testing.T) {
	checkRows(t, api.OAdd, []row{
		{0, 0, 0}, {1, 2, 3}, {-1, 1, 0}, {-7, 3, -4}, {7, -3, 4}, {-7, -3, -10},
		{greatest, 0, greatest}, {greatest, 1, least}, {1, greatest, least}, {greatest, 2, -2147483647}, {greatest, greatest, -2},
		{least, 0, least}, {least, -1, greatest}, {-1, least, greatest}, {least, -2, 2147483646}, {least, least, 0},
		{least, greatest, -1}, {greatest, least, -1}, {greatest, -1, 2147483646}, {least, 1, -2147483647},
	})
}

func TestDifferencesWrittenOut(t *testing.T) {
	checkRows(t, api.OSub, []row{
		{0, 0, 0}, {3, 2, 1}, {2, 3, -1}, {-7, 3, -10}, {7, -3, 10}, {-7, -3, -4}, {0, 1, -1}, {0, greatest, -2147483647},
		{greatest, 0, greatest}, {greatest, -1, least}, {greatest, greatest, 0}, {greatest, least, -1}, {greatest, -2, -2147483647},
		{least, 0, least}, {least, 1, greatest}, {least, least, 0}, {least, greatest, 1}, {0, least, least}, {-1, least, greatest}, {1, least, -2147483647},
	})
}

func TestProductsWrittenOut(t *testing.T) {
	checkRows(t, api.OMul, []row{
		{0, 0, 0}, {0, greatest, 0}, {least, 0, 0}, {3, 7, 21}, {-3, 7, -21}, {3, -7, -21}, {-3, -7, 21},
		{46340, 46340, 2147395600}, {46341, 46341, -2147479015}, {-46341, 46341, 2147479015}, {65536, 65536, 0}, {65536, 32768, least}, {65535, 65537, -1}, {65536, -32768, least},
		{greatest, 1, greatest}, {greatest, -1, -2147483647}, {greatest, 2, -2}, {greatest, -2, 2}, {greatest, greatest, 1},
		{least, 1, least}, {least, -1, least}, {-1, least, least}, {least, 2, 0}, {least, 3, least}, {least, least, 0}, {least, greatest, least},
		{123456789, 1000, -1097262584}, {-123456789, 1000, 1097262584},
	})
}

func TestQuotientsWrittenOut(t *testing.T) {
	checkRows(t, api.ODiv, []row{
		{7, 3, 2}, {-7, 3, -2}, {7, -3, -2}, {-7, -3, 2}, {6, 3, 2}, {-6, 3, -2}, {6, -3, -2}, {-6, -3, 2},
		{8, 3, 2}, {-8, 3, -2}, {8, -3, -2}, {-8, -3, 2}, {1, 2, 0}, {-1, 2, 0}, {1, -2, 0}, {-1, -2, 0},
		{0, 1, 0}, {0, -1, 0}, {0, greatest, 0}, {0, least, 0}, {5, 1, 5}, {5, -1, -5}, {-5, -1, 5},
		{greatest, 1, greatest}, {greatest, -1, -2147483647}, {greatest, 2, 1073741823}, {greatest, -2, -1073741823}, {greatest, greatest, 1}, {greatest, least, 0},
		{least, 1, least}, {least, -1, least}, {least, 2, -1073741824}, {least, -2, 1073741824}, {least, 3, -715827882}, {least, greatest, -1}, {least, least, 1},
		{least + 1, -1, greatest}, {least + 1, least, 0}, {-1, least, 0}, {1, least, 0}, {-1, greatest, 0},
	})
}

func TestRestsWrittenOut(t *testing.T) {
	checkRows(t, api.ORem, []row{
		{7, 3, 1}, {-7, 3, -1}, {7, -3, 1}, {-7, -3, -1}, {6, 3, 0}, {-6, 3, 0}, {6, -3, 0}, {-6, -3, 0},
		{8, 3, 2}, {-8, 3, -2}, {8, -3, 2}, {-8, -3, -2}, {1, 2, 1}, {-1, 2, -1}, {1, -2, 1}, {-1, -2, -1},
		{0, 1, 0}, {0, -1, 0}, {0, greatest, 0}, {0, least, 0}, {5, 1, 0}, {5, -1, 0}, {-5, -1, 0},
		{greatest, 1, 0}, {greatest, -1, 0}, {greatest, 2, 1}, {greatest, -2, 1}, {greatest, greatest, 0}, {greatest, least, greatest},
		{least, 1, 0}, {least, -1, 0}, {least, 2, 0}, {least, 3, -2}, {least, -3, -2}, {least, greatest, -1}, {least, least, 0},
		{least + 1, -1, 0}, {least + 1, least, -2147483647}, {-1, least, -1}, {1, least, 1}, {-1, greatest, -1},
	})
}

func TestByNought(t *testing.T) {
	for _, a := range numbers() {
		checkTwo(t, api.ODiv, a, 0, 0, false)
		checkTwo(t, api.ORem, a, 0, 0, false)
	}
	for _, op := range ofTwo() {
		if _, ok := ints.Two(op, 5, 0); ok != (op != api.ODiv && op != api.ORem) {
			t.Errorf("Two(%d, 5, 0) tells %v", op, ok)
		}
	}
}

func TestBitsWrittenOut(t *testing.T) {
	checkRows(t, api.OAnd, []row{{12, 10, 8}, {0, -1, 0}, {-1, -1, -1}, {-1, 5, 5}, {-4, 7, 4}, {-4, -6, -8}, {greatest, least, 0}, {least, -1, least}, {greatest, -1, greatest}})
	checkRows(t, api.OOr, []row{{12, 10, 14}, {0, -1, -1}, {0, 0, 0}, {-4, 7, -1}, {-4, 1, -3}, {-8, -6, -6}, {greatest, least, -1}, {least, 0, least}, {least, 1, -2147483647}})
	checkRows(t, api.OXor, []row{{12, 10, 6}, {0, -1, -1}, {-1, -1, 0}, {-4, 7, -5}, {-4, -6, 6}, {greatest, least, -1}, {least, least, 0}, {least, -1, greatest}, {greatest, -1, least}})
}

// Of each number of places that is shifted by: what it comes to.
func counts() []struct{ by, places int32 } {
	return []struct{ by, places int32 }{
		{0, 0}, {1, 1}, {31, 31}, {32, 0}, {33, 1}, {63, 31}, {64, 0}, {65, 1}, {-1, 31}, {-31, 1}, {-32, 0}, {-33, 31}, {-64, 0},
		{least, 0}, {least + 1, 1}, {greatest, 31}, {greatest - 30, 1}, {256, 0}, {257, 1}, {65536, 0}, {65535, 31},
	}
}

func TestShiftsWrittenOut(t *testing.T) {
	for _, x := range []struct {
		op   int
		a    int32
		want map[int32]int32 // by places
	}{
		{api.OShl, 0, map[int32]int32{0: 0, 1: 0, 31: 0}},
		{api.OShl, 1, map[int32]int32{0: 1, 1: 2, 31: least}},
		{api.OShl, -1, map[int32]int32{0: -1, 1: -2, 31: least}},
		{api.OShl, 6, map[int32]int32{0: 6, 1: 12, 31: 0}},
		{api.OShl, -7, map[int32]int32{0: -7, 1: -14, 31: least}},
		{api.OShl, 1 << 30, map[int32]int32{0: 1 << 30, 1: least, 31: 0}},
		{api.OShl, greatest, map[int32]int32{0: greatest, 1: -2, 31: least}},
		{api.OShl, least, map[int32]int32{0: least, 1: 0, 31: 0}},
		{api.OShr, 0, map[int32]int32{0: 0, 1: 0, 31: 0}},
		{api.OShr, 1, map[int32]int32{0: 1, 1: 0, 31: 0}},
		{api.OShr, -1, map[int32]int32{0: -1, 1: -1, 31: -1}},
		{api.OShr, 7, map[int32]int32{0: 7, 1: 3, 31: 0}},
		{api.OShr, -7, map[int32]int32{0: -7, 1: -4, 31: -1}},
		{api.OShr, greatest, map[int32]int32{0: greatest, 1: 1073741823, 31: 0}},
		{api.OShr, least, map[int32]int32{0: least, 1: -1073741824, 31: -1}},
		{api.OUshr, 0, map[int32]int32{0: 0, 1: 0, 31: 0}},
		{api.OUshr, 1, map[int32]int32{0: 1, 1: 0, 31: 0}},
		{api.OUshr, -1, map[int32]int32{0: -1, 1: greatest, 31: 1}},
		{api.OUshr, 7, map[int32]int32{0: 7, 1: 3, 31: 0}},
		{api.OUshr, -7, map[int32]int32{0: -7, 1: 2147483644, 31: 1}},
		{api.OUshr, greatest, map[int32]int32{0: greatest, 1: 1073741823, 31: 0}},
		{api.OUshr, least, map[int32]int32{0: least, 1: 1073741824, 31: 1}},
	} {
		for _, c := range counts() {
			checkTwo(t, x.op, x.a, c.by, x.want[c.places], true)
		}
	}
}

func TestTwoOfEveryOtherOp(t *testing.T) {
	for _, op := range opsBeside(ofTwo()...) {
		for _, x := range []row{{a: 0, b: 0}, {a: 1, b: 1}, {a: 7, b: -3}, {a: -1, b: 0}, {a: greatest, b: greatest}, {a: least, b: -1}, {a: least, b: greatest}} {
			checkTwo(t, op, x.a, x.b, 0, false)
		}
	}
}

// goers are the ops of a group, in api's order (eq ne lt ge gt le), that go where a number stands below, at or above another.
func goers(below, at, above bool, group []int) []int {
	var list []int
	for i, there := range [][3]bool{{false, true, false}, {true, false, true}, {true, false, false}, {false, true, true}, {false, false, true}, {true, true, false}} {
		if below && there[0] || at && there[1] || above && there[2] {
			list = append(list, group[i])
		}
	}
	return list
}

func checkGroup(t *testing.T, group []int, a, b int32, goes []int) {
	t.Helper()
	for _, op := range group {
		want := false
		for _, x := range goes {
			want = want || x == op
		}
		checkGoes(t, op, a, b, want)
	}
}

func TestGoesAgainstNought(t *testing.T) {
	for _, b := range numbers() {
		for _, a := range []int32{-1, -2, -1000, least, least + 1} {
			checkGroup(t, againstNought(), a, b, []int{api.OIfne, api.OIflt, api.OIfle})
		}
		checkGroup(t, againstNought(), 0, b, []int{api.OIfeq, api.OIfge, api.OIfle})
		for _, a := range []int32{1, 2, 1000, greatest, greatest - 1} {
			checkGroup(t, againstNought(), a, b, []int{api.OIfne, api.OIfge, api.OIfgt})
		}
	}
}

func TestGoesOfBoth(t *testing.T) {
	for _, a := range numbers() {
		checkGroup(t, ofBoth(), a, a, []int{api.OCmpeq, api.OCmpge, api.OCmple})
		if a != greatest {
			checkGroup(t, ofBoth(), a, a+1, []int{api.OCmpne, api.OCmplt, api.OCmple})
			checkGroup(t, ofBoth(), a, greatest, []int{api.OCmpne, api.OCmplt, api.OCmple})
		}
		if a != least {
			checkGroup(t, ofBoth(), a, a-1, []int{api.OCmpne, api.OCmpge, api.OCmpgt})
			checkGroup(t, ofBoth(), a, least, []int{api.OCmpne, api.OCmpge, api.OCmpgt})
		}
	}
	checkGroup(t, ofBoth(), least, greatest, []int{api.OCmpne, api.OCmplt, api.OCmple})
	checkGroup(t, ofBoth(), greatest, least, []int{api.OCmpne, api.OCmpge, api.OCmpgt})
}

// Each pair of numbers in order, the places of a rising list telling how they stand.
func TestGoesOfEachPair(t *testing.T) {
	list := numbers()
	for i, a := range list {
		for k, b := range list {
			checkGroup(t, ofBoth(), a, b, goers(i < k, i == k, i > k, ofBoth()))
		}
		checkGroup(t, againstNought(), a, a, goers(a < 0, a == 0, a > 0, againstNought()))
	}
}

func TestGoesOfEveryOtherOp(t *testing.T) {
	for _, op := range opsBeside(append(againstNought(), ofBoth()...)...) {
		for _, x := range []row{{a: 0, b: 0}, {a: 0, b: 1}, {a: 1, b: 0}, {a: -1, b: 1}, {a: 5, b: 5}, {a: least, b: greatest}, {a: greatest, b: least}, {a: least, b: least}} {
			checkGoes(t, op, x.a, x.b, false)
		}
	}
}
