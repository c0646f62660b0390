package mem_test

import (
	"bytes"
	"math"
	"slices"
	"testing"

	"lightship/api"
)

// toTheEnd is how many addresses there are from one on: with so many bytes their sum wraps round to 0.
func toTheEnd(at uint32) uint32 {
	return -at
}

// P9.3: rows of bytes at all places of both, from their first ones to their last ones, and not beyond.
func TestBytes(t *testing.T) {
	m := made(t, 12, rising(1, 9))
	for _, p := range []struct {
		at  uint32
		all []byte
	}{{ram, rising(101, 12)}, {win, rising(1, 9)}} {
		for i := range len(p.all) + 1 {
			for n := range len(p.all) - i + 1 {
				wantRow(t, "there", m, p.at+uint32(i), p.all[i:i+n])
			}
			left := uint32(len(p.all) - i)
			for _, n := range []uint32{left + 1, left + 2, 100, 65536, 1 << 31, math.MaxUint32 - p.at, math.MaxUint32, toTheEnd(p.at), toTheEnd(p.at + uint32(i))} {
				wantThrow(t, "too many", m, p.at+uint32(i), n, memory)
			}
		}
		for n := range uint32(20) {
			wantThrow(t, "one before", m, p.at-1, n, memory)
			wantThrow(t, "one too far", m, p.at+uint32(len(p.all))+1, n, memory)
		}
	}
}

// P9.3: zero bytes are there at each address of the window and of RAM, and immediately behind their ends, and nowhere else.
func TestNoBytes(t *testing.T) {
	for _, size := range []int{4, 16, 65536} {
		for _, n := range []int{0, 1, 10, 65536} {
			m := made(t, size, rising(1, n))
			there := []uint32{win, win + uint32(n/2), win + uint32(n), ram, ram + 1, ram + 3, ram + uint32(size) - 1, ram + uint32(size)}
			for _, at := range there {
				wantThrow(t, "no bytes", m, at, 0, api.ThrowNone)
				want(t, "Fill of none", m.Fill(at, 0, 5), api.ThrowNone)
				for _, to := range there {
					want(t, "Move of none", m.Move(at, to, 0), api.ThrowNone)
				}
			}
			for _, at := range noneOf(size, n) {
				wantThrow(t, "no bytes where nothing is", m, at, 0, memory)
				want(t, "Fill of none", m.Fill(at, 0, 5), memory)
				for _, other := range there {
					want(t, "Move of none from there", m.Move(at, other, 0), memory)
					want(t, "Move of none to there", m.Move(other, at, 0), memory)
				}
				want(t, "Move of none there", m.Move(at, at, 0), memory)
			}
			wantAll(t, "nothing changed", m, rising(101, size), rising(1, n))
		}
	}
}

// noneOf are addresses where not even zero bytes are, with RAM and a window of these sizes.
func noneOf(size, n int) []uint32 {
	l := []uint32{win + uint32(n) + 1, win + uint32(n) + 4, ram + uint32(size) + 1, ram + uint32(size) + 4}
	for _, at := range none {
		if at != win+uint32(n) && at != ram+uint32(size) {
			l = append(l, at)
		}
	}
	return l
}

// P9.3 (R3): what Bytes told stays as it is, and is not the memory's, nor is what is behind it.
func TestBytesHaveMemoryOfTheirOwn(t *testing.T) {
	for _, at := range []uint32{ram, win} {
		m := made(t, 8, rising(101, 8))
		first, _ := m.Bytes(at+2, 3)
		second, _ := m.Bytes(at+2, 3)
		empty, _ := m.Bytes(at+2, 0)
		first[0] = 9
		_ = append(first, 9, 9)
		_ = append(empty, 9, 9)
		_ = append(slices.Grow(first[:0], 40), rising(0, 40)...)
		wantBytes(t, "second list", second, rising(103, 3))
		wantAll(t, "with the lists changed", m, rising(101, 8), rising(101, 8))
		want(t, "Fill", m.Fill(ram, 8, 0), api.ThrowNone)
		want(t, "Show", m.Show(nil), api.OK)
		wantBytes(t, "second list", second, rising(103, 3))
	}
}

// P9.3: within RAM, however both overlap, in either direction.
func TestMove(t *testing.T) {
	const size = 16
	for from := range size + 1 {
		for to := range size + 1 {
			for n := range size - max(from, to) + 1 {
				m := made(t, size, rising(1, 5))
				inRam := rising(101, size)
				copy(inRam[to:], rising(101+byte(from), n))
				want(t, "Move", m.Move(ram+uint32(from), ram+uint32(to), uint32(n)), api.ThrowNone)
				wantAll(t, "moved", m, inRam, rising(1, 5))
			}
		}
	}
}

// P9.3: the whole of a large RAM, by one byte, by some, and by almost all of it.
func TestMoveOfMuch(t *testing.T) {
	const size = 65536
	for _, by := range []int{0, 1, 3, 4, 255, 32767, 32768, 65535} {
		m := made(t, size, nil)
		up := rising(101, size)
		copy(up[by:], rising(101, size-by))
		want(t, "Move up", m.Move(ram, ram+uint32(by), uint32(size-by)), api.ThrowNone)
		wantAll(t, "moved up", m, up, nil)
		m = made(t, size, nil)
		down := rising(101, size)
		copy(down, rising(101+byte(by), size-by))
		want(t, "Move down", m.Move(ram+uint32(by), ram, uint32(size-by)), api.ThrowNone)
		wantAll(t, "moved down", m, down, nil)
	}
}

// P9.3: from the window into RAM, all of it and pieces of it.
func TestMoveFromTheWindow(t *testing.T) {
	for _, k := range []struct{ size, n int }{{8, 5}, {8, 8}, {4, 9}, {65536, 65536}} {
		for _, first := range []int{0, 1, k.n - 1, k.n} {
			for _, to := range []int{0, 1, k.size - 1, k.size} {
				m := made(t, k.size, rising(1, k.n))
				n := min(k.n-first, k.size-to)
				inRam := rising(101, k.size)
				copy(inRam[to:], rising(1+byte(first), n))
				want(t, "Move", m.Move(win+uint32(first), ram+uint32(to), uint32(n)), api.ThrowNone)
				wantAll(t, "moved", m, inRam, rising(1, k.n))
				want(t, "Move of one more", m.Move(win+uint32(first), ram+uint32(to), uint32(n)+1), memory)
				wantAll(t, "not moved", m, inRam, rising(1, k.n))
			}
		}
	}
}

// P9.3: what is moved from the window stays in RAM when the window is another one.
func TestMovedBytesAreCopied(t *testing.T) {
	m := made(t, 8, rising(1, 5))
	want(t, "Move", m.Move(win, ram, 5), api.ThrowNone)
	want(t, "Show", m.Show(rising(50, 5)), api.OK)
	wantAll(t, "shown", m, []byte{1, 2, 3, 4, 5, 106, 107, 108}, rising(50, 5))
	want(t, "Fill", m.Fill(ram, 8, 0), api.ThrowNone)
	wantAll(t, "filled", m, make([]byte, 8), rising(50, 5))
}

// P9.3: neither from RAM nor from itself is anything moved into the window, but no bytes at all.
func TestMoveIntoTheWindow(t *testing.T) {
	m := made(t, 16, rising(1, 9))
	for _, from := range []uint32{ram, ram + 7, win, win + 1} {
		for to := range uint32(10) {
			for n := range 9 - to + 1 {
				throw := read
				if n == 0 {
					throw = api.ThrowNone
				} else if from < ram && from-win+n > 9 {
					throw = memory
				}
				want(t, "Move into the window", m.Move(from, win+to, n), throw)
			}
			want(t, "Move beyond the window", m.Move(from, win+to, 9-to+1), memory)
		}
	}
	wantAll(t, "nothing moved", m, rising(101, 16), rising(1, 9))
}

// P9.3: one of both is not there: by its address, or by the number of bytes, also beyond 32 bits.
func TestMoveOfWhatIsNotThere(t *testing.T) {
	m := made(t, 16, rising(1, 9))
	for _, at := range none {
		for _, n := range []uint32{1, 4, 9, 65536, 1 << 31, toTheEnd(at), toTheEnd(at) + 1, math.MaxUint32} {
			for _, other := range []uint32{ram, win, at} {
				want(t, "Move from nowhere", m.Move(at, other, n), memory)
				want(t, "Move to nowhere", m.Move(other, at, n), memory)
			}
		}
	}
	for _, n := range []uint32{17, 1 << 16, 1 << 31, math.MaxUint32 - ram, toTheEnd(ram), toTheEnd(ram) + 1, toTheEnd(ram) + 4, math.MaxUint32 - 3, math.MaxUint32} {
		want(t, "Move of too much", m.Move(ram, ram, n), memory)
		want(t, "Move of too much", m.Move(ram+16, ram, n), memory)
		want(t, "Move of too much", m.Move(win, ram, n), memory)
		want(t, "Move of too much", m.Move(ram, win, n), memory)
	}
	want(t, "Move of one too much from there", m.Move(ram+13, ram, 4), memory)
	want(t, "Move of one too much to there", m.Move(ram, ram+13, 4), memory)
	wantAll(t, "nothing moved", m, rising(101, 16), rising(1, 9))
}

// P9.3: all rows of a small RAM, and no byte beside them.
func TestFill(t *testing.T) {
	const size = 12
	for i := range size + 1 {
		for n := range size - i + 1 {
			for _, b := range []byte{0, 1, 200, 255} {
				m := made(t, size, rising(1, 5))
				inRam := slices.Concat(rising(101, i), bytes.Repeat([]byte{b}, n), rising(101+byte(i+n), size-i-n))
				want(t, "Fill", m.Fill(ram+uint32(i), uint32(n), b), api.ThrowNone)
				wantAll(t, "filled", m, inRam, rising(1, 5))
			}
		}
	}
}

// P9.3: a RAM of 65536 bytes, all of it, and all but its ends.
func TestFillOfMuch(t *testing.T) {
	m := made(t, 65536, nil)
	want(t, "Fill of one too many", m.Fill(ram, 65537, 9), memory)
	want(t, "Fill of one too many", m.Fill(ram+1, 65536, 9), memory)
	wantAll(t, "not filled", m, rising(101, 65536), nil)
	want(t, "Fill of all", m.Fill(ram, 65536, 9), api.ThrowNone)
	wantAll(t, "filled", m, bytes.Repeat([]byte{9}, 65536), nil)
	want(t, "Fill of all but the ends", m.Fill(ram+1, 65534, 0), api.ThrowNone)
	wantAll(t, "filled", m, slices.Concat([]byte{9}, make([]byte, 65534), []byte{9}), nil)
}

// P9.3: nothing is filled where not all bytes are there, or where they are the window's; no bytes are filled anywhere there.
func TestFillOfWrongPlaces(t *testing.T) {
	m := made(t, 16, rising(1, 9))
	for _, at := range none {
		for _, n := range []uint32{1, 4, 16, 65536, 1 << 31, toTheEnd(at), toTheEnd(at) + 1, math.MaxUint32} {
			want(t, "Fill of nowhere", m.Fill(at, n, 5), memory)
		}
	}
	for i := range uint32(17) {
		for _, n := range []uint32{17 - i, 18 - i, 65536, 1 << 31, toTheEnd(ram + i), toTheEnd(ram+i) + 1, math.MaxUint32} {
			want(t, "Fill of too many", m.Fill(ram+i, n, 5), memory)
		}
	}
	for i := range uint32(10) {
		want(t, "Fill of none in the window", m.Fill(win+i, 0, 5), api.ThrowNone)
		for n := uint32(1); n <= 9-i; n++ {
			want(t, "Fill of the window", m.Fill(win+i, n, 5), read)
		}
		want(t, "Fill beyond the window", m.Fill(win+i, 10-i, 5), memory)
		want(t, "Fill from the window to RAM", m.Fill(win+i, ram-win-i+4, 5), memory)
	}
	wantAll(t, "nothing filled", m, rising(101, 16), rising(1, 9))
}
