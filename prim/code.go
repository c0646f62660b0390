package prim

import "lightship/api"

// Long returns how many cells the instruction at a position has: 0 if none is there as a whole.
func Long(code []uint32, at int) int {
	if at < 0 || at >= len(code) {
		return 0
	}
	t := primitives()
	return t.first(code[at:])
}

// Starts returns the positions of all instructions, if code is whole.
func Starts(code []uint32) ([]int, bool) {
	t := primitives()
	return t.starts(code)
}

func (t *table) starts(code []uint32) ([]int, bool) {
	var l []int
	for at := 0; at < len(code); {
		n := t.first(code[at:])
		if n == 0 {
			return nil, false
		}
		l = append(l, at)
		at += n
	}
	return l, true
}

// first returns how many cells the instruction has with which code, of at least one cell, begins: 0 if that is none, or isn't there as a whole.
func (t *table) first(code []uint32) int {
	if code[0] >= api.FirstCall {
		return 1
	}
	p, ok := t.get(code[0])
	if !ok {
		return 0
	}
	n := 1 + p.Operands
	if p.Text && n <= len(code) {
		if code[1] > api.MaxText { // held against it as a cell, which may be greater than any int
			return 0
		}
		n += cellsOf(int(code[1]))
	}
	if n > len(code) {
		return 0
	}
	return n
}

// cellsOf returns how many cells the bytes of a text need.
func cellsOf(n int) int {
	return (n + 3) / 4
}
