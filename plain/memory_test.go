package plain_test

import (
	"fmt"
	"slices"
	"testing"

	"lightship/api"
)

const (
	align  = api.ThrowAlign
	memory = api.ThrowMemory
	read   = api.ThrowRead
)

// The window has the bytes 1 to 12, and RAM 101 to 116.

// wantRam fails unless a primitive takes these cells all, and makes RAM's bytes from a place on these.
func wantRam(t *testing.T, name string, taken []uint32, at int, b ...byte) {
	t.Helper()
	for _, below := range [][]uint32{nil, {7}, {3, 2, 1}} {
		data := slices.Concat(below, taken)
		k := made(t, room{len(data), 2}, data, []uint32{31, 32})
		want(t, name, k.do(name), api.ThrowNone)
		k.wantStacks(t, name, below, []uint32{31, 32})
		inRam := rising(101, 16)
		copy(inRam[at:], b)
		k.wantMemory(t, fmt.Sprint(name, taken), inRam)
	}
}

// wantCells fails unless a primitive gives these cells, and nothing else changes.
func wantCells(t *testing.T, name string, taken []uint32, given ...uint32) {
	t.Helper()
	k := made(t, room{max(len(taken), len(given)), 2}, taken, nil)
	want(t, name, k.do(name), api.ThrowNone)
	k.wantState(t, fmt.Sprint(name, taken), given, nil)
}

// wantRefused fails unless a primitive throws, and nothing changes.
func wantRefused(t *testing.T, name string, throw api.Throw, taken ...uint32) {
	t.Helper()
	for _, below := range [][]uint32{nil, {7, 8}} {
		data := slices.Concat(below, taken)
		k := made(t, room{len(data) + 1, 2}, data, []uint32{31})
		want(t, fmt.Sprint(name, taken), k.do(name), throw)
		k.wantState(t, fmt.Sprint(name, taken), data, []uint32{31})
	}
}

// none are addresses where no byte is: before and behind both parts, and at both ends of all addresses.
var none = []uint32{0, 4, win - 4, win - 1, win + 12, win + 13, win + 16, win + 65536, ram - 4, ram - 1, ram + 16, ram + 17, ram + 20, 1 << 31, 1<<31 + ram, 1<<32 - 4, 1<<32 - 1}

// P12.1: @ and 2@ read cells of both parts, from their first ones to their last ones; 2@ gives the one at the address uppermost.
func TestLoad(t *testing.T) {
	wantCells(t, "@", []uint32{win}, 0x04030201)
	wantCells(t, "@", []uint32{win + 8}, 0x0c0b0a09)
	wantCells(t, "@", []uint32{ram}, 0x68676665)
	wantCells(t, "@", []uint32{ram + 12}, 0x74737271)
	wantCells(t, "2@", []uint32{win}, 0x08070605, 0x04030201)
	wantCells(t, "2@", []uint32{win + 4}, 0x0c0b0a09, 0x08070605)
	wantCells(t, "2@", []uint32{ram}, 0x6c6b6a69, 0x68676665)
	wantCells(t, "2@", []uint32{ram + 8}, 0x74737271, 0x706f6e6d)
	wantRefused(t, "2@", memory, win+8)
	wantRefused(t, "2@", memory, ram+12)
	wantRefused(t, "2@", memory, win-4)
	wantRefused(t, "2@", memory, ram-4)
	for _, name := range []string{"@", "2@"} {
		for _, at := range none {
			if at%4 == 0 {
				wantRefused(t, name, memory, at)
			} else {
				wantRefused(t, name, align, at)
			}
		}
		for i := range uint32(16) {
			if i%4 != 0 {
				wantRefused(t, name, align, ram+i)
				wantRefused(t, name, align, win+i)
			}
		}
	}
}

// P12.1: ! writes a cell of RAM, from its first one to its last one, the lowest byte first.
func TestStore(t *testing.T) {
	wantRam(t, "!", []uint32{0x44332211, ram}, 0, 0x11, 0x22, 0x33, 0x44)
	wantRam(t, "!", []uint32{0xfffefdfc, ram + 4}, 4, 0xfc, 0xfd, 0xfe, 0xff)
	wantRam(t, "!", []uint32{258, ram + 12}, 12, 2, 1, 0, 0)
	for _, name := range []string{"!", "+!"} {
		for i := range uint32(16) {
			switch {
			case i%4 != 0:
				wantRefused(t, name, align, 5, ram+i)
				wantRefused(t, name, align, 5, win+i)
			case i < 12:
				wantRefused(t, name, read, 5, win+i)
				wantRefused(t, name, read, 0, win+i)
			}
		}
		for _, at := range none {
			if at%4 == 0 {
				wantRefused(t, name, memory, 5, at)
			} else {
				wantRefused(t, name, align, 5, at)
			}
		}
	}
}

// P12.1: +! adds to a cell of RAM, modulo 2^32.
func TestAdd(t *testing.T) {
	wantRam(t, "+!", []uint32{1, ram}, 0, 102, 102, 103, 104)
	wantRam(t, "+!", []uint32{155, ram + 4}, 4, 4, 107, 107, 108) // 105 + 155 = 256 + 4
	wantRam(t, "+!", []uint32{0, ram + 8}, 8)
	wantRam(t, "+!", []uint32{1<<32 - 0x74737271, ram + 12}, 12, 0, 0, 0, 0)
	wantRam(t, "+!", []uint32{1<<32 - 1, ram + 12}, 12, 0x70, 0x72, 0x73, 0x74)
	k := made(t, room{4, 1}, []uint32{7, ram, 1<<32 - 9, ram}, nil)
	k.m.Store(ram, 5)
	want(t, "+! of -9", k.do("+!"), api.ThrowNone)
	x, _ := k.m.Load(ram)
	want(t, "+! of -9", x, 1<<32-4)
	want(t, "+! of 7", k.do("+!"), api.ThrowNone)
	x, _ = k.m.Load(ram)
	want(t, "+! of 7", x, 3)
}

// P12.1: 2! writes two cells of RAM, or none: the uppermost one at the address.
func TestStoreTwo(t *testing.T) {
	wantRam(t, "2!", []uint32{0x08070605, 0x04030201, ram}, 0, 1, 2, 3, 4, 5, 6, 7, 8)
	wantRam(t, "2!", []uint32{0, 1<<32 - 1, ram + 8}, 8, 255, 255, 255, 255, 0, 0, 0, 0)
	wantRam(t, "2!", []uint32{9, 9, ram + 4}, 4, 9, 0, 0, 0, 9, 0, 0, 0)
	wantRefused(t, "2!", memory, 5, 6, ram+12)
	wantRefused(t, "2!", memory, 5, 6, ram-4)
	wantRefused(t, "2!", memory, 5, 6, win-4)
	wantRefused(t, "2!", read, 5, 6, win)
	wantRefused(t, "2!", read, 5, 6, win+4)
	wantRefused(t, "2!", read, 5, 6, win+8) // the first one is thrown for
	for i := range uint32(16) {
		if i%4 != 0 {
			wantRefused(t, "2!", align, 5, 6, ram+i)
			wantRefused(t, "2!", align, 5, 6, win+i)
		}
	}
	for _, at := range none {
		if at%4 == 0 {
			wantRefused(t, "2!", memory, 5, 6, at)
		}
	}
}

// P12.1, P12.2: what 2! wrote 2@ gives again.
func TestTwoThereAndBack(t *testing.T) {
	for at := uint32(ram); at <= ram+8; at += 4 {
		k := made(t, room{3, 1}, []uint32{0xdeadbeef, 0x12345678, at}, nil)
		want(t, "2!", k.do("2!"), api.ThrowNone)
		k.s.Push(at)
		want(t, "2@", k.do("2@"), api.ThrowNone)
		k.wantStacks(t, "2! 2@", []uint32{0xdeadbeef, 0x12345678}, nil)
	}
}

// P12.1: C@, C! and COUNT have any address; C! writes the lowest byte alone.
func TestBytes(t *testing.T) {
	for i := range uint32(16) {
		wantCells(t, "C@", []uint32{ram + i}, 101+i)
		wantCells(t, "COUNT", []uint32{ram + i}, ram+i+1, 101+i)
		for _, x := range []uint32{0, 5, 255, 256, 0x12345678, 0xffffff00, 1<<32 - 1} {
			wantRam(t, "C!", []uint32{x, ram + i}, int(i), byte(x))
		}
	}
	for i := range uint32(12) {
		wantCells(t, "C@", []uint32{win + i}, 1+i)
		wantCells(t, "COUNT", []uint32{win + i}, win+i+1, 1+i)
		wantRefused(t, "C!", read, 5, win+i)
	}
	for _, at := range none {
		wantRefused(t, "C@", memory, at)
		wantRefused(t, "COUNT", memory, at)
		wantRefused(t, "C!", memory, 5, at)
	}
}

// P12.1: bytes are read as numbers from 0 to 255.
func TestGreatBytes(t *testing.T) {
	k := made(t, room{4, 1}, []uint32{ram}, nil)
	k.m.SetByte(ram, 255)
	want(t, "C@", k.do("C@"), api.ThrowNone)
	k.s.Push(ram)
	want(t, "COUNT", k.do("COUNT"), api.ThrowNone)
	k.wantStacks(t, "C@ COUNT", []uint32{255, ram + 1, 255}, nil)
}

// P12.1: MOVE within RAM, over one another in both directions, and from the window; of no bytes, too.
func TestMove(t *testing.T) {
	wantRam(t, "MOVE", []uint32{ram, ram + 4, 4}, 4, 101, 102, 103, 104)
	wantRam(t, "MOVE", []uint32{ram, ram + 1, 5}, 1, 101, 102, 103, 104, 105)
	wantRam(t, "MOVE", []uint32{ram + 1, ram, 5}, 0, 102, 103, 104, 105, 106)
	wantRam(t, "MOVE", []uint32{ram, ram + 1, 15}, 1, rising(101, 15)...)
	wantRam(t, "MOVE", []uint32{ram + 1, ram, 15}, 0, rising(102, 15)...)
	wantRam(t, "MOVE", []uint32{ram, ram, 16}, 0)
	wantRam(t, "MOVE", []uint32{win, ram + 4, 12}, 4, rising(1, 12)...)
	wantRam(t, "MOVE", []uint32{win + 3, ram + 15, 1}, 15, 4)
	for _, from := range []uint32{ram, ram + 3, ram + 16, win, win + 12} {
		for _, to := range []uint32{ram, ram + 5, ram + 16, win, win + 1, win + 12} {
			wantRam(t, "MOVE", []uint32{from, to, 0}, 0)
		}
	}
	for _, n := range []uint32{1, 4, 12} {
		wantRefused(t, "MOVE", read, ram, win, n)
		wantRefused(t, "MOVE", read, win, win, n)
	}
	for _, n := range []uint32{17, 1 << 16, 1 << 31, 1<<32 - ram, 1<<32 - 16, 1<<32 - 1} {
		wantRefused(t, "MOVE", memory, ram, ram, n)
		wantRefused(t, "MOVE", memory, ram+16, ram, n)
		wantRefused(t, "MOVE", memory, win, ram, n)
		wantRefused(t, "MOVE", memory, ram, win, n)
	}
	wantRefused(t, "MOVE", memory, win, ram, 13)
	wantRefused(t, "MOVE", memory, win+1, ram, 12)
	wantRefused(t, "MOVE", memory, ram+13, ram, 4)
	wantRefused(t, "MOVE", memory, ram, ram+13, 4)
	wantRefused(t, "MOVE", memory, ram, win+9, 4)
	for _, at := range []uint32{0, win - 1, win + 13, ram - 1, ram + 17, 1<<32 - 1} {
		for _, n := range []uint32{0, 1, 4} {
			wantRefused(t, "MOVE", memory, at, ram, n)
			wantRefused(t, "MOVE", memory, ram, at, n)
		}
	}
}

// P12.1: FILL with the lowest byte, of all of RAM, of a piece, and of no bytes.
func TestFill(t *testing.T) {
	wantRam(t, "FILL", []uint32{ram, 3, 9}, 0, 9, 9, 9)
	wantRam(t, "FILL", []uint32{ram + 5, 4, 0x12345678}, 5, 0x78, 0x78, 0x78, 0x78)
	wantRam(t, "FILL", []uint32{ram, 16, 256}, 0, make([]byte, 16)...)
	wantRam(t, "FILL", []uint32{ram + 15, 1, 1<<32 - 1}, 15, 255)
	for _, at := range []uint32{ram, ram + 7, ram + 16, win, win + 5, win + 12} {
		wantRam(t, "FILL", []uint32{at, 0, 9}, 0)
	}
	for _, n := range []uint32{1, 4, 12} {
		wantRefused(t, "FILL", read, win, n, 9)
	}
	for _, n := range []uint32{17, 1 << 16, 1 << 31, 1<<32 - ram, 1<<32 - 16, 1<<32 - 1} {
		wantRefused(t, "FILL", memory, ram, n, 9)
		wantRefused(t, "FILL", memory, ram+16, n, 9)
		wantRefused(t, "FILL", memory, win, n, 9)
	}
	wantRefused(t, "FILL", memory, ram+1, 16, 9)
	wantRefused(t, "FILL", memory, win, 13, 9)
	for _, at := range []uint32{0, win - 1, win + 13, ram - 1, ram + 17, 1<<32 - 1} {
		for _, n := range []uint32{0, 1, 4} {
			wantRefused(t, "FILL", memory, at, n, 9)
		}
	}
}

// P12.1: with the greatest window, and the greatest RAM, at their ends.
func TestGreatMemory(t *testing.T) {
	k := made(t, room{4, 1}, nil, nil)
	want(t, "Show", k.m.Show(rising(1, api.MaxWindow)), api.OK)
	k.s.Push(win + api.MaxWindow - 4)
	want(t, "@", k.do("@"), api.ThrowNone)
	k.wantStacks(t, "@", []uint32{0x00fffefd}, nil)
	k.s.Push(win + api.MaxWindow - 4)
	want(t, "2@", k.do("2@"), memory)
	want(t, "DROP", k.do("DROP"), api.ThrowNone)
	k.s.Push(win + api.MaxWindow - 1)
	want(t, "COUNT", k.do("COUNT"), api.ThrowNone)
	k.wantStacks(t, "COUNT", []uint32{0x00fffefd, win + api.MaxWindow, 0}, nil)
}
