package stack_test

import (
	"math"
	"slices"
	"testing"

	"lightship/api"
)

// P8.3: the topmost cell, the lowest one, and those that are none.
func TestPeek(t *testing.T) {
	for _, n := range []int{0, 1, 2, 7, 4096} {
		s := made(t, 4096, rising(1, n)...)
		for i := range n {
			want(t, "Peek", got(s.Peek(i)), popped{uint32(n - i), api.ThrowNone})
		}
		for _, i := range slices.Concat(farBelow, []int{n, n + 1}, farBeyond) {
			want(t, "Peek of none", got(s.Peek(i)), popped{0, under})
		}
		wantCells(t, "after Peek", s, rising(1, n)...)
	}
}

// P8.3: each cell of stacks of some numbers of cells.
func TestRoll(t *testing.T) {
	for _, n := range []int{1, 2, 3, 8} {
		for i := range n {
			s := made(t, 8, rising(1, n)...)
			want(t, "Roll", s.Roll(i), api.ThrowNone)
			x := uint32(n - i)
			cells := slices.Concat(rising(1, n-i-1), rising(x+1, i), []uint32{x})
			wantCells(t, "rolled", s, cells...)
		}
	}
}

// P8.3: cells that are none; a stack that is full, or has no cells.
func TestRollOfNone(t *testing.T) {
	for _, n := range []int{0, 1, 2, 7, 8} {
		s := made(t, 8, rising(1, n)...)
		for _, i := range slices.Concat(farBelow, []int{n, n + 1}, farBeyond) {
			want(t, "Roll of none", s.Roll(i), under)
			wantCells(t, "not rolled", s, rising(1, n)...)
		}
	}
}

// P8.3: the lowest cell of a stack of 4096, rolled as often as there are cells, and the topmost one.
func TestRollOfFullStack(t *testing.T) {
	s := made(t, 4096, rising(1, 4096)...)
	want(t, "Roll(0)", s.Roll(0), api.ThrowNone)
	wantCells(t, "the topmost one rolled", s, rising(1, 4096)...)
	want(t, "Roll(4095)", s.Roll(4095), api.ThrowNone)
	wantCells(t, "the lowest one rolled", s, append(rising(2, 4095), 1)...)
	for range 4095 {
		want(t, "Roll(4095)", s.Roll(4095), api.ThrowNone)
	}
	wantCells(t, "all of them rolled", s, rising(1, 4096)...)
	want(t, "Push to a full stack", s.Push(1), over)
}

// P8.3: each number of cells, 0 and all of them too.
func TestCut(t *testing.T) {
	for _, n := range []int{0, 1, 2, 7, 8} {
		for left := range n + 1 {
			s := made(t, 8, rising(1, n)...)
			want(t, "Cut", s.Cut(left), api.ThrowNone)
			wantCells(t, "cut", s, rising(1, left)...)
			want(t, "Cut by one more", s.Cut(left+1), under)
			push(t, s, rising(50, 8-left)...)
			wantCells(t, "filled again", s, append(rising(1, left), rising(50, 8-left)...)...)
			want(t, "Push to a full stack", s.Push(1), over)
		}
	}
	s := made(t, 4096, rising(1, 4096)...)
	want(t, "Cut(4096)", s.Cut(4096), api.ThrowNone)
	wantCells(t, "all of them", s, rising(1, 4096)...)
	want(t, "Cut(4095)", s.Cut(4095), api.ThrowNone)
	wantCells(t, "all but one", s, rising(1, 4095)...)
}

// P8.3: numbers that are not from 0 to Len, also those for which there is room.
func TestCutOfWrongNumbers(t *testing.T) {
	for _, n := range []int{0, 1, 2, 7, 8} {
		s := made(t, 8, rising(1, n)...)
		for _, left := range slices.Concat(farBelow, []int{n + 1, n + 2, 9}, farBeyond) {
			want(t, "Cut", s.Cut(left), under)
			wantCells(t, "not cut", s, rising(1, n)...)
		}
	}
}

// P8.3: cells that were cut off don't come back, by whatever call.
func TestCutCellsAreGone(t *testing.T) {
	s := made(t, 8, rising(1, 8)...)
	want(t, "Cut(3)", s.Cut(3), api.ThrowNone)
	want(t, "Cut(8)", s.Cut(8), under)
	want(t, "Peek(3)", got(s.Peek(3)), popped{0, under})
	want(t, "Roll(3)", s.Roll(3), under)
	want(t, "May(4, 0)", s.May(4, 0), under)
	want(t, "Peek(-1)", got(s.Peek(-1)), popped{0, under})
	want(t, "May(0, 5)", s.May(0, 5), api.ThrowNone)
	want(t, "May(0, 6)", s.May(0, 6), over)
	wantCells(t, "cut", s, 1, 2, 3)
}

// P8.2, P8.3: what is thrown is the stack's own code.
func TestOwnCodes(t *testing.T) {
	for _, codes := range [][2]api.Throw{{-3, -4}, {-5, -6}, {-4, -3}, {-1, -2}, {-77, -77}, {math.MinInt32, -1}, {-1, math.MinInt32}} {
		s := madeOf(t, 2, codes[0], codes[1], rising(1, 2))
		want(t, "May, over", s.May(0, 1), codes[0])
		want(t, "May, under", s.May(3, 3), codes[1])
		want(t, "Push", s.Push(1), codes[0])
		want(t, "Peek", got(s.Peek(2)), popped{0, codes[1]})
		want(t, "Roll", s.Roll(2), codes[1])
		want(t, "Cut", s.Cut(3), codes[1])
		want(t, "Cut(0)", s.Cut(0), api.ThrowNone)
		want(t, "Pop", got(s.Pop()), popped{0, codes[1]})
	}
}
