package mem_test

import (
	"math"
	"testing"

	"lightship/api"
)

// none are addresses that have neither bytes of the window nor of RAM, whatever their sizes are.
var none = []uint32{0, 1, 4, 3, win - 4, win - 3, win - 2, win - 1, win + 65536, win + 65540, ram - 4, ram - 3, ram - 1, ram + 65536, ram + 65540, 1 << 31, 1<<31 + ram, math.MaxUint32 - 7, math.MaxUint32 - 3, math.MaxUint32 - 2, math.MaxUint32}

// P9.2, P9.4: the bytes of a cell are those at its address, the lowest one first; all other bytes stay.
func TestStoreAndLoad(t *testing.T) {
	for _, size := range []int{4, 8, 20, 65536} {
		for _, i := range []int{0, 4, 8, 16, size - 8, size - 4} {
			if i < 0 || i > size-4 {
				continue
			}
			for _, x := range []uint32{0, 1, 0x80, 0xff, 0x100, 0x04030201, 0xfffefdfc, 0x80000000, 0x7fffffff, math.MaxUint32} {
				m := made(t, size, rising(1, 6))
				at := ram + uint32(i)
				want(t, "Store", m.Store(at, x), api.ThrowNone)
				want(t, "Load", cell(m.Load(at)), told{x, 0})
				inRam := rising(101, size)
				copy(inRam[i:], []byte{byte(x % 256), byte(x / 256 % 256), byte(x / 65536 % 256), byte(x / 16777216)})
				wantAll(t, "stored", m, inRam, rising(1, 6))
			}
		}
	}
}

// P9.2, P9.4: what is stored in each cell is loaded from each of them.
func TestAllCells(t *testing.T) {
	m := fresh(t, 65536, nil)
	for at := ram; at < ram+65536; at += 4 {
		want(t, "Load of a new cell", cell(m.Load(at)), told{0, 0})
		want(t, "Store", m.Store(at, at*2654435761), api.ThrowNone)
	}
	for at := ram; at < ram+65536; at += 4 {
		want(t, "Load", cell(m.Load(at)), told{at * 2654435761, 0})
	}
}

// P9.2: cells of the window are loaded as long as all their bytes are there, and are not stored.
func TestCellsOfTheWindow(t *testing.T) {
	for _, n := range []int{0, 1, 2, 3, 4, 5, 6, 7, 8, 9, 65532, 65533, 65534, 65535, 65536} {
		m := made(t, 8, rising(1, n))
		for _, i := range []int{0, 4, 8, n - n%4 - 8, n - n%4 - 4, n - n%4, n - n%4 + 4} {
			if i < 0 {
				continue
			}
			at := win + uint32(i)
			if i+4 > n {
				want(t, "Load", cell(m.Load(at)), told{0, memory})
				want(t, "Store", m.Store(at, 5), memory)
				continue
			}
			b := rising(1+byte(i), 4)
			x := uint32(b[0]) + 256*(uint32(b[1])+256*(uint32(b[2])+256*uint32(b[3])))
			want(t, "Load", cell(m.Load(at)), told{x, 0})
			want(t, "Store", m.Store(at, 5), read)
			want(t, "Store of the same", m.Store(at, x), read)
		}
		wantAll(t, "nothing stored", m, rising(101, 8), rising(1, n))
	}
}

// P9.2: what is no multiple of 4 comes first, also where nothing is there, or where it is read alone.
func TestAlign(t *testing.T) {
	m := made(t, 16, rising(1, 10))
	for _, base := range []uint32{0, win - 4, win, win + 4, win + 8, win + 12, ram - 4, ram, ram + 8, ram + 12, ram + 16, 1 << 31, math.MaxUint32 - 3} {
		for i := uint32(1); i < 4; i++ {
			want(t, "Load", cell(m.Load(base+i)), told{0, align})
			want(t, "Store", m.Store(base+i, 5), align)
		}
	}
	wantAll(t, "nothing stored", m, rising(101, 16), rising(1, 10))
}

// P9.2: addresses just before and just behind what is there.
func TestCellsThatAreNotThere(t *testing.T) {
	for _, size := range []int{4, 16, 65536} {
		for _, n := range []int{0, 10, 65536} {
			m := made(t, size, rising(1, n))
			ends := []uint32{ram + uint32(size), ram + uint32(size) + 4, win + uint32(n+3)/4*4}
			for _, at := range append(ends, none...) {
				if at%4 != 0 {
					continue
				}
				want(t, "Load", cell(m.Load(at)), told{0, memory})
				want(t, "Store", m.Store(at, 5), memory)
			}
			wantAll(t, "nothing stored", m, rising(101, size), rising(1, n))
		}
	}
}

// P9.2, P9.4: bytes at any address of RAM, the first one and the last one too; all others stay.
func TestSetByte(t *testing.T) {
	for _, size := range []int{4, 12, 65536} {
		for _, i := range []int{0, 1, 2, 3, 5, size / 2, size - 2, size - 1} {
			if i >= size {
				continue
			}
			for _, b := range []byte{0, 1, 127, 128, 255} {
				m := made(t, size, rising(1, 6))
				want(t, "SetByte", m.SetByte(ram+uint32(i), b), api.ThrowNone)
				want(t, "Byte", one(m.Byte(ram+uint32(i))), told{uint32(b), 0})
				inRam := rising(101, size)
				inRam[i] = b
				wantAll(t, "set", m, inRam, rising(1, 6))
			}
		}
	}
}

// P9.2: each byte that is there, by its address.
func TestAllBytes(t *testing.T) {
	m := made(t, 65536, rising(7, 65536))
	for i := range uint32(65536) {
		want(t, "Byte of RAM", one(m.Byte(ram+i)), told{uint32(101+byte(i)) % 256, 0})
		want(t, "Byte of the window", one(m.Byte(win+i)), told{uint32(7+byte(i)) % 256, 0})
	}
}

// P9.2: bytes of the window are not set, neither the first one nor the last one.
func TestBytesOfTheWindow(t *testing.T) {
	for _, n := range []int{1, 2, 3, 4, 5, 65535, 65536} {
		m := made(t, 8, rising(1, n))
		for _, i := range []int{0, n / 2, n - 1} {
			b := byte(1 + i)
			want(t, "Byte", one(m.Byte(win+uint32(i))), told{uint32(b), 0})
			want(t, "SetByte", m.SetByte(win+uint32(i), 5), read)
			want(t, "SetByte of the same", m.SetByte(win+uint32(i), b), read)
		}
		want(t, "Byte behind the window", one(m.Byte(win+uint32(n))), told{0, memory})
		want(t, "SetByte behind the window", m.SetByte(win+uint32(n), 5), memory)
		wantAll(t, "nothing set", m, rising(101, 8), rising(1, n))
	}
}

// P9.2: addresses just before and just behind what is there, aligned or not.
func TestBytesThatAreNotThere(t *testing.T) {
	for _, size := range []int{4, 16, 65536} {
		for _, n := range []int{0, 1, 10, 65536} {
			m := made(t, size, rising(1, n))
			ends := []uint32{ram + uint32(size), ram + uint32(size) + 1, ram + uint32(size) + 4, win + uint32(n), win + uint32(n) + 1, win + uint32(n) + 4}
			for _, at := range append(ends, none...) {
				want(t, "Byte", one(m.Byte(at)), told{0, memory})
				want(t, "SetByte", m.SetByte(at, 5), memory)
			}
			wantAll(t, "nothing set", m, rising(101, size), rising(1, n))
		}
	}
}
