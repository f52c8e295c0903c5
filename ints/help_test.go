package ints_test

import (
	"math"
	"slices"
	"testing"

	"daguerre/api"
	"daguerre/ints"
)

const (
	least    = math.MinInt32
	greatest = math.MaxInt32
)

func ofTwo() []int {
	return []int{api.OAdd, api.OSub, api.OMul, api.ODiv, api.ORem, api.OAnd, api.OOr, api.OXor, api.OShl, api.OShr, api.OUshr}
}

func againstNought() []int {
	return []int{api.OIfeq, api.OIfne, api.OIflt, api.OIfge, api.OIfgt, api.OIfle}
}

func ofBoth() []int {
	return []int{api.OCmpeq, api.OCmpne, api.OCmplt, api.OCmpge, api.OCmpgt, api.OCmple}
}

// allOps are those of api and those about them, below nought and huge ones, and what would be one of api's if it were cut to fewer bits or turned about.
func allOps() []int {
	list := []int{math.MinInt, math.MinInt + 1, math.MaxInt - 1, math.MaxInt, least, least - 1, greatest, greatest + 1, math.MaxUint32, 1000, 1_000_000}
	for op := -300; op <= 300; op++ {
		list = append(list, op)
	}
	for op := range api.OExit + 2 {
		for _, bits := range []int{8, 16, 31, 32, 62, 63} {
			list = append(list, op+1<<bits, op-1<<bits, 1<<bits-op)
		}
		list = append(list, ^op)
	}
	slices.Sort(list)
	return slices.Compact(list)
}

func opsBeside(named ...int) []int {
	return slices.DeleteFunc(allOps(), func(op int) bool { return slices.Contains(named, op) })
}

// numbers are both ends, nought, each power of two, and what stands beside them, with some that have no such place.
func numbers() []int32 {
	list := []int32{123456789, -123456789, 46340, 46341, -46341, 65535, 0x55555555, -0x55555556, 0x0f0f0f0f, -0x0f0f0f10, 1000, -1000, 10, -10, 5, -5, 6, -6, 7, -7}
	for bit := range 32 {
		x := int32(1) << bit
		list = append(list, x-1, x, x+1, -x-1, -x, -x+1)
	}
	slices.Sort(list)
	return slices.Compact(list)
}

func checkOne(t *testing.T, op int, a, want int32) {
	t.Helper()
	if got := ints.One(op, a); got != want {
		t.Fatalf("One(%d, %d) = %d; want %d", op, a, got, want)
	}
}

func checkTwo(t *testing.T, op int, a, b, want int32, wantOK bool) {
	t.Helper()
	if got, ok := ints.Two(op, a, b); got != want || ok != wantOK {
		t.Fatalf("Two(%d, %d, %d) = %d, %v; want %d, %v", op, a, b, got, ok, want, wantOK)
	}
}

func checkGoes(t *testing.T, op int, a, b int32, want bool) {
	t.Helper()
	if got := ints.Goes(op, a, b); got != want {
		t.Fatalf("Goes(%d, %d, %d) = %v; want %v", op, a, b, got, want)
	}
}
