package cell_test

import (
	"math"
	"testing"

	"lightship/api"
	"lightship/cell"
)

// numbers returns a row of numbers that look random, and are the same each time.
func numbers(seed uint32) func() uint32 {
	return func() uint32 {
		seed ^= seed << 13
		seed ^= seed >> 17
		seed ^= seed << 5
		return seed
	}
}

// someCells are cells at the edges, unsigned and signed, and others.
func someCells() []uint32 {
	cells := []uint32{0, 1, 2, 3, 4, 5, 7, 10, 31, 32, 33, 255, 256, 46340, 46341, 65535, 65536, 65537}
	for _, x := range []uint32{1 << 16, 1 << 30, 1 << 31} {
		cells = append(cells, x-2, x-1, x, x+1, x+2)
	}
	for x := uint32(1); x <= 10; x++ {
		cells = append(cells, -x)
	}
	next := numbers(7)
	for range 12 {
		cells = append(cells, next())
	}
	return cells
}

// answer is what a call returned: two cells, and a throw.
type answer[A, B uint32 | int32] struct {
	a A
	b B
	e api.Throw
}

func got[A, B uint32 | int32](a A, b B, e api.Throw) answer[A, B] {
	return answer[A, B]{a, b, e}
}

func pair[A, B uint32 | int32](a A, b B) answer[A, B] {
	return answer[A, B]{a: a, b: b}
}

func want[T comparable](t *testing.T, what string, got, wanted T) {
	t.Helper()
	if got != wanted {
		t.Errorf("%s: %v, want %v", what, got, wanted)
	}
}

// The chapter's examples, number by number.
func TestExamples(t *testing.T) {
	want(t, "Product of 2^32 - 1 by itself", pair(cell.Product(4294967295, 4294967295)), answer[uint32, uint32]{1, 4294967294, 0})
	want(t, "Signed of -3, 5", pair(cell.Signed(-3, 5)), answer[uint32, int32]{4294967281, -1, 0})
	want(t, "Divide of 7 by 2", got(cell.Divide(7, 0, 2)), answer[uint32, uint32]{1, 3, 0})
	want(t, "Divide of 7, high 2, by 2", got(cell.Divide(7, 2, 2)), answer[uint32, uint32]{0, 0, -11})
	want(t, "Divide of 7, high 2, by 0", got(cell.Divide(7, 2, 0)), answer[uint32, uint32]{0, 0, -10})
	want(t, "Divide of 7 by 0", got(cell.Divide(7, 0, 0)), answer[uint32, uint32]{0, 0, -10})
	want(t, "Symmetric of -7 by 2", got(cell.Symmetric(4294967289, -1, 2)), answer[int32, int32]{-1, -3, 0})
	want(t, "Floored of -7 by 2", got(cell.Floored(4294967289, -1, 2)), answer[int32, int32]{1, -4, 0})
	want(t, "Symmetric of -2^31 by -1", got(cell.Symmetric(2147483648, -1, -1)), answer[int32, int32]{0, 0, -11})
	want(t, "Shift of 1 by 31, left", cell.Shift(1, 31, true), 2147483648)
	want(t, "Shift of 1 by 32, left", cell.Shift(1, 32, true), 0)
	want(t, "Flag(true)", cell.Flag(true), 4294967295)
}

// P7.1.
func TestFlag(t *testing.T) {
	want(t, "Flag(true)", cell.Flag(true), math.MaxUint32)
	want(t, "Flag(false)", cell.Flag(false), 0)
}

// shifted moves the bits of a cell one by one.
func shifted(x, by uint32, left bool) uint32 {
	var out uint32
	for i := range int64(32) {
		to := i - int64(by)
		if left {
			to = i + int64(by)
		}
		if x>>i&1 == 1 && to >= 0 && to < 32 {
			out |= 1 << to
		}
	}
	return out
}

// P7.1: by 31, 32 and more; the uppermost bit is a bit as any other.
func TestShift(t *testing.T) {
	for _, k := range []struct {
		x, by uint32
		left  bool
		out   uint32
	}{
		{5, 0, true, 5},
		{5, 0, false, 5},
		{5, 1, true, 10},
		{5, 1, false, 2},
		{0xffffffff, 31, true, 1 << 31},
		{0xffffffff, 31, false, 1},
		{1 << 31, 31, false, 1},
		{1 << 31, 1, false, 1 << 30},
		{1 << 31, 1, true, 0},
		{2, 31, true, 0},
		{2, 31, false, 0},
		{0x80000001, 4, false, 0x08000000},
		{0x80000001, 4, true, 0x10},
		{0x12345678, 8, true, 0x34567800},
		{0x12345678, 8, false, 0x00123456},
		{0xffffffff, 32, true, 0},
		{0xffffffff, 32, false, 0},
	} {
		want(t, "Shift", cell.Shift(k.x, k.by, k.left), k.out)
	}
}

// P7.1: each cell, by each number of positions; what is more than a cell has counts as a whole, not by its lowest bits.
func TestShiftMovesBits(t *testing.T) {
	more := []uint32{32, 33, 34, 63, 64, 65, 95, 96, 255, 256, 257, 1 << 16, 1 << 31, 1<<31 + 1, math.MaxUint32 - 31, math.MaxUint32 - 1, math.MaxUint32}
	for _, x := range someCells() {
		for by := range uint32(32) {
			want(t, "Shift to the left", cell.Shift(x, by, true), shifted(x, by, true))
			want(t, "Shift to the right", cell.Shift(x, by, false), shifted(x, by, false))
		}
		for _, by := range more {
			want(t, "Shift to the left, by 32 or more", cell.Shift(x, by, true), 0)
			want(t, "Shift to the right, by 32 or more", cell.Shift(x, by, false), 0)
		}
	}
}
