package prim_test

import (
	"math"
	"slices"
	"testing"

	"lightship/prim"
)

// wantWhole fails unless code is whole, with instructions at these positions, each of which ends where the next one begins.
func wantWhole(t *testing.T, code []uint32, starts ...int) {
	t.Helper()
	l, ok := prim.Starts(code)
	if !ok || !slices.Equal(l, starts) {
		t.Errorf("Starts of %d cells, %d: %v %v, want %v", len(code), few(code), l, ok, few(starts))
	}
	for i, end := range append(starts[min(1, len(starts)):], len(code)) {
		if i < len(starts) {
			wantLong(t, code, starts[i], end-starts[i])
		}
	}
}

// wantNotWhole fails unless code is not whole, and nothing is told of it.
func wantNotWhole(t *testing.T, code []uint32) {
	t.Helper()
	l, ok := prim.Starts(code)
	if ok || len(l) != 0 {
		t.Errorf("Starts of %d cells, %d: %v %v, want none", len(code), few(code), few(l), ok)
	}
}

func wantLong(t *testing.T, code []uint32, at, wanted int) {
	t.Helper()
	if n := prim.Long(code, at); n != wanted {
		t.Errorf("Long of %d cells, %d, at %d: %d, want %d", len(code), few(code), at, n, wanted)
	}
}

func few[T any](l []T) []T {
	return l[:min(len(l), 20)]
}

// textOf is a text of n bytes in code: the instruction, n, and as many cells as these need.
func textOf(instruction uint32, n int) []uint32 {
	code := []uint32{instruction, uint32(n)}
	for i := 0; i < n; i += 4 {
		code = append(code, 0x21212121+uint32(i))
	}
	return code
}

// P11.2: each primitive with its operands, whatever these are: it ends just with the code, ends ahead of more, or lacks one cell.
func TestEachInstruction(t *testing.T) {
	for _, p := range defined() {
		for _, operand := range []uint32{0, 1, 4, 101, 255, 256, math.MaxUint32} {
			code := []uint32{p.Number}
			for range p.Operands {
				code = append(code, operand)
			}
			if p.Text {
				code = textOf(p.Number, int(operand%6))
			}
			wantLong(t, code, 0, len(code))
			wantWhole(t, code, 0)
			wantLong(t, slices.Concat(code, []uint32{99, 0}), 0, len(code))
			wantLong(t, slices.Concat([]uint32{7, 99}, code), 2, len(code))
			for n := range len(code) {
				wantLong(t, code[:n], 0, 0)
			}
			if len(code) > 1 {
				wantNotWhole(t, code[:len(code)-1])
				wantNotWhole(t, slices.Concat([]uint32{1}, code[:len(code)-1]))
			}
		}
	}
}

// P11.2: calls, from 256 on; below it what is no primitive is no instruction.
func TestCalls(t *testing.T) {
	for _, c := range []uint32{256, 257, 258, 300, 356, 357, 371, 1255, 1256, 1257, 65535, 65536, 1 << 31, math.MaxInt32, math.MaxUint32 - 1, math.MaxUint32} {
		wantLong(t, []uint32{c}, 0, 1)
		wantWhole(t, []uint32{c, c, 101}, 0, 1, 2)
	}
	for n := range uint32(256) {
		_, ok := prim.Get(n)
		if !ok {
			wantLong(t, []uint32{n, 0, 0, 0}, 0, 0)
			wantNotWhole(t, []uint32{n})
			wantNotWhole(t, []uint32{n, 101})
			wantNotWhole(t, []uint32{101, n})
			wantNotWhole(t, []uint32{1, 2, n, 300, 101})
		}
	}
}

// P11.2: texts of all lengths there may be, with and without something behind, and with one cell too few.
func TestTexts(t *testing.T) {
	for _, instruction := range []uint32{115, 116} {
		for n := range 1001 {
			code := textOf(instruction, n)
			want(t, "cells of the text", len(code), 2+(n+3)/4)
			wantLong(t, code, 0, len(code))
			wantLong(t, append(slices.Clone(code), 101), 0, len(code))
			wantLong(t, code[:len(code)-1], 0, 0)
			wantWhole(t, append(slices.Clone(code), 101), 0, len(code))
			wantNotWhole(t, code[:len(code)-1])
			wantNotWhole(t, append([]uint32{101}, code[:len(code)-1]...))
		}
	}
}

// P11.2: texts by the numbers of cells that the chapter's limit names, written out.
func TestCellsOfTexts(t *testing.T) {
	for _, k := range []struct{ bytes, cells int }{{0, 2}, {1, 3}, {3, 3}, {4, 3}, {5, 4}, {8, 4}, {9, 5}, {996, 251}, {997, 252}, {999, 252}, {1000, 252}} {
		code := make([]uint32, 300)
		code[0], code[1] = 115, uint32(k.bytes)
		wantLong(t, code, 0, k.cells)
		wantLong(t, code[:k.cells], 0, k.cells)
		wantLong(t, code[:k.cells-1], 0, 0)
	}
}

// P11.2: texts of more bytes than any may have, though the cells are there, or seem to be once numbers wrap round.
func TestLongTexts(t *testing.T) {
	for _, n := range []uint32{1001, 1002, 1004, 1005, 2000, 65536, 1<<30 + 1, 1<<31 - 1, 1 << 31, 1<<31 + 4, math.MaxUint32 - 3, math.MaxUint32 - 2, math.MaxUint32 - 1, math.MaxUint32} {
		for _, instruction := range []uint32{115, 116} {
			code := make([]uint32, 20000)
			for i := range code {
				code[i] = 1
			}
			copy(code, []uint32{instruction, n})
			wantLong(t, code, 0, 0)
			wantLong(t, code[:2], 0, 0)
			wantLong(t, code[:3], 0, 0)
			wantNotWhole(t, code)
			wantNotWhole(t, code[:2])
			wantNotWhole(t, slices.Concat([]uint32{101}, code))
		}
	}
}

// P11.2 (R7): positions where nothing is: below 0, at the end, beyond it; and code without cells.
func TestNoPosition(t *testing.T) {
	for _, code := range [][]uint32{nil, {}, {1}, {101}, {300}, {102, 5}, {115, 0}, {139, 0, 0}, {1, 1, 1, 1, 1}} {
		for _, at := range []int{-1, -2, -4, -256, math.MinInt32, math.MinInt, len(code), len(code) + 1, len(code) + 100, math.MaxInt32, math.MaxInt} {
			wantLong(t, code, at, 0)
		}
	}
	wantLong(t, []uint32{1, 1, 1}[:2], 2, 0)
	wantLong(t, []uint32{102, 5, 1}[:1], 0, 0)
}

// P11.2: positions within an instruction: what stands there tells, not what stands ahead of it.
func TestWithinAnInstruction(t *testing.T) {
	wantLong(t, []uint32{102, 7, 1}, 1, 1)
	wantLong(t, []uint32{102, 102, 1}, 1, 2)
	wantLong(t, []uint32{102, 102}, 1, 0)
	wantLong(t, []uint32{102, 99, 1}, 1, 0)
	wantLong(t, []uint32{102, 256, 1}, 1, 1)
	wantLong(t, []uint32{139, 139, 139, 5, 5}, 1, 3)
	wantLong(t, []uint32{139, 139, 139, 5, 5}, 2, 3)
	wantLong(t, []uint32{115, 115, 5, 5, 5}, 1, 4)
	wantLong(t, []uint32{115, 115, 9, 5, 5}, 1, 0)
	wantLong(t, []uint32{115, 1, 99}, 1, 1)
	wantLong(t, []uint32{115, 1, 99}, 2, 0)
}

// P11.2: code without cells is whole, and has no starts.
func TestNoCode(t *testing.T) {
	wantWhole(t, nil)
	wantWhole(t, []uint32{})
	wantWhole(t, []uint32{99, 99}[:0])
}

// P11.2: operands are no starts, whatever they are; and where one is taken for an instruction, all behind it is different.
func TestStarts(t *testing.T) {
	wantWhole(t, []uint32{102, 102, 102, 99, 103, 255, 101}, 0, 2, 4, 6)
	wantWhole(t, []uint32{1, 102, 102, 102, 102, 1}, 0, 1, 3, 5)
	wantWhole(t, []uint32{139, 139, 139, 139, 102, 102, 1}, 0, 3, 6)
	wantWhole(t, []uint32{115, 5, 115, 115, 101}, 0, 4)
	wantWhole(t, []uint32{116, 0, 116, 0, 115, 1, 0, 101}, 0, 2, 4, 7)
	wantNotWhole(t, []uint32{102, 102, 102})
	wantNotWhole(t, []uint32{102, 1, 99, 101})
	wantNotWhole(t, []uint32{99})
	wantNotWhole(t, []uint32{139, 1})
	wantNotWhole(t, []uint32{101, 139, 1})
}

// P11.2: code longer than any word's.
func TestLongCode(t *testing.T) {
	var code []uint32
	var starts []int
	for i := range 50000 {
		starts = append(starts, len(code))
		code = append(code, 102, uint32(i))
	}
	wantWhole(t, code, starts...)
	wantNotWhole(t, code[:len(code)-1])
	wantNotWhole(t, append(slices.Clone(code), 0))
}

// P11.2 (R3): code stays as it is, also behind its end, and starts have memory of their own.
func TestStartsHaveMemoryOfTheirOwn(t *testing.T) {
	memory := []uint32{102, 7, 1, 18, 101, 99, 98, 97}
	code := memory[:5]
	l, _ := prim.Starts(code)
	other, _ := prim.Starts(code)
	prim.Long(code, 0)
	wantAll(t, "code", memory, []uint32{102, 7, 1, 18, 101, 99, 98, 97})
	for i := range l {
		l[i] = 77
	}
	_ = append(l[:2], 55)
	wantAll(t, "the other starts", other, []int{0, 2, 3, 4})
	clear(memory)
	wantAll(t, "with the code changed", other, []int{0, 2, 3, 4})
	wantNotWhole(t, code)
}

// P11.4: code followed by code is whole if both are, with the starts of both; it is not if the second one isn't.
func TestTwoCodes(t *testing.T) {
	whole := [][]uint32{nil, {1}, {101}, {256}, {102, 102}, {139, 115, 116}, textOf(115, 0), textOf(116, 5), {102, 7, 1, 18, 101}, {103, 99, 300, 101}}
	for _, a := range whole {
		for _, b := range whole {
			first, _ := prim.Starts(a)
			second, _ := prim.Starts(b)
			l := slices.Clone(first)
			for _, at := range second {
				l = append(l, at+len(a))
			}
			wantWhole(t, slices.Concat(a, b), l...)
		}
		for _, b := range [][]uint32{{0}, {99, 1}, {102}, {139, 1}, {115, 1001}, {115, 4}} {
			wantNotWhole(t, slices.Concat(a, b))
		}
	}
}
