package mem_test

import (
	"bytes"
	"math"
	"testing"

	"lightship/api"
	"lightship/mem"
)

// Where the window and RAM begin, by the chapter's numbers.
const (
	win uint32 = 4096
	ram uint32 = 1 << 20
)

// Codes, by the standard's numbers.
const (
	memory api.Throw = -9
	read   api.Throw = -20
	align  api.Throw = -23
)

// made returns a memory whose RAM has the bytes 101, 102, and so on (modulo 256).
func made(t *testing.T, size int, window []byte) *mem.Memory {
	t.Helper()
	m := fresh(t, size, window)
	for i, b := range rising(101, size) {
		if throw := m.SetByte(ram+uint32(i), b); throw != api.ThrowNone {
			t.Fatalf("SetByte of byte %d of RAM: %d", i, throw)
		}
	}
	return m
}

func fresh(t *testing.T, size int, window []byte) *mem.Memory {
	t.Helper()
	m, e := mem.New(size, window)
	if e != api.OK || m == nil {
		t.Fatalf("New(%d, %d bytes): error %d", size, len(window), e)
	}
	return m
}

// rising returns the bytes first, first + 1, and so on, modulo 256.
func rising(first byte, n int) []byte {
	l := make([]byte, n)
	for i := range l {
		l[i] = first + byte(i)
	}
	return l
}

func want[T comparable](t *testing.T, what string, got, wanted T) {
	t.Helper()
	if got != wanted {
		t.Errorf("%s: %v, want %v", what, got, wanted)
	}
}

// told is what Load and Byte return.
type told struct {
	x uint32
	t api.Throw
}

func cell(x uint32, t api.Throw) told {
	return told{x, t}
}

func one(b byte, t api.Throw) told {
	return told{uint32(b), t}
}

func wantBytes(t *testing.T, what string, got, wanted []byte) {
	t.Helper()
	if !bytes.Equal(got, wanted) {
		t.Errorf("%s: %d bytes, of which the first ones are %d, want %d: %d", what, len(got), few(got), len(wanted), few(wanted))
	}
}

func few(b []byte) []byte {
	return b[:min(len(b), 40)]
}

// wantRow fails unless Bytes(at, n) returns these and throws nothing.
func wantRow(t *testing.T, what string, m *mem.Memory, at uint32, wanted []byte) {
	t.Helper()
	b, throw := m.Bytes(at, uint32(len(wanted)))
	want(t, what+": Bytes", throw, api.ThrowNone)
	wantBytes(t, what+": Bytes", b, wanted)
}

// wantThrow fails unless Bytes(at, n) throws this, and returns nothing.
func wantThrow(t *testing.T, what string, m *mem.Memory, at, n uint32, wanted api.Throw) {
	t.Helper()
	b, throw := m.Bytes(at, n)
	want(t, what+": Bytes", throw, wanted)
	wantBytes(t, what+": Bytes", b, nil)
}

// wantAll fails unless RAM and the window have these bytes, and not one more.
func wantAll(t *testing.T, what string, m *mem.Memory, inRam, inWindow []byte) {
	t.Helper()
	wantBytes(t, what+": Ram", m.Ram(), inRam)
	wantRow(t, what+": RAM", m, ram, inRam)
	wantThrow(t, what+": behind RAM", m, ram, uint32(len(inRam))+1, memory)
	wantRow(t, what+": window", m, win, inWindow)
	wantThrow(t, what+": behind the window", m, win, uint32(len(inWindow))+1, memory)
}

// The chapter's examples, number by number.
func TestExamples(t *testing.T) {
	m, e := mem.New(16, []byte{1, 2, 3, 4, 5})
	want(t, "New", e, api.OK)
	want(t, "Load of 4096", cell(m.Load(4096)), told{0x04030201, 0})
	want(t, "Load of 4100", cell(m.Load(4100)), told{0, api.ThrowMemory})
	want(t, "Byte of 4100", one(m.Byte(4100)), told{5, 0})
	want(t, "Store of 7 at 2^20", m.Store(1<<20, 7), 0)
	want(t, "Byte there", one(m.Byte(1<<20)), told{7, 0})
	want(t, "Store at 4096", m.Store(4096, 7), api.ThrowRead)
	want(t, "Store at 2^20 + 2", m.Store(1<<20+2, 7), api.ThrowAlign)
	want(t, "Store at 2^20 + 16", m.Store(1<<20+16, 7), api.ThrowMemory)
	want(t, "Move of 2^20 to 2^20 + 1, 3 bytes", m.Move(1<<20, 1<<20+1, 3), 0)
	wantBytes(t, "after Move", m.Ram()[:4], []byte{7, 7, 0, 0})
	wantBytes(t, "all of RAM", m.Ram(), []byte{7, 7, 0, 0, 0, 0, 0, 0, 0, 0, 0, 0, 0, 0, 0, 0})
	wantThrow(t, "Bytes of 2^20 + 16, none", m, 1<<20+16, 0, api.ThrowNone)
}

// P9.1: all sizes near the least one and the greatest one, and windows from no bytes to 65536.
func TestNew(t *testing.T) {
	sizes := []int{32764, 32768, 65528, 65532, 65536}
	for size := 4; size <= 400; size += 4 {
		sizes = append(sizes, size)
	}
	for _, size := range sizes {
		for _, n := range []int{0, 1, 3, 4, 65535, 65536} {
			window := rising(1, n)
			wantAll(t, "new", fresh(t, size, window), make([]byte, size), window)
		}
	}
}

// P9.1 (R6): no window, and one of no bytes, are the same.
func TestNewWithoutWindow(t *testing.T) {
	wantAll(t, "nil", fresh(t, 8, nil), make([]byte, 8), nil)
	wantAll(t, "of no bytes", fresh(t, 8, []byte{}), make([]byte, 8), nil)
}

// P9.1: RAM of no bytes, of less, of a number that is no multiple of 4, of too many; windows of too many bytes.
func TestNewOfWrongArguments(t *testing.T) {
	wrong := []int{0, -1, -2, -3, -4, -8, -65536, math.MinInt32, math.MinInt, 65537, 65538, 65539, 65540, 65544, 1 << 17, 1 << 20, math.MaxInt32, 1 << 32, 1<<32 + 4, math.MaxInt - 3, math.MaxInt}
	for size := range 300 {
		if size%4 != 0 {
			wrong = append(wrong, size, 65536-size)
		}
	}
	for _, size := range wrong {
		wantNone(t, size, 0)
		wantNone(t, size, 5)
		wantNone(t, size, 65537)
	}
	for _, n := range []int{65537, 65538, 65540, 1 << 17, 1 << 20} {
		for _, size := range []int{4, 16, 65536} {
			wantNone(t, size, n)
		}
	}
}

func wantNone(t *testing.T, size, n int) {
	t.Helper()
	m, e := mem.New(size, make([]byte, n))
	if m != nil || e != api.ErrArg {
		t.Errorf("New(%d, %d bytes): %v, error %d, want none, and ErrArg", size, n, m != nil, e)
	}
}

// P9.1, P9.4: the window is replaced by longer ones and by shorter ones, and RAM stays.
func TestShow(t *testing.T) {
	m := made(t, 16, rising(1, 7))
	for i, n := range []int{7, 9, 3, 0, 1, 65536, 65535, 4, 65536, 0, 0, 12} {
		window := rising(byte(50*i), n)
		want(t, "Show", m.Show(window), api.OK)
		wantAll(t, "shown", m, rising(101, 16), window)
		want(t, "last byte but none", one(m.Byte(win+uint32(n))), told{0, memory})
		if n > 0 {
			want(t, "last byte", one(m.Byte(win+uint32(n)-1)), told{uint32(window[n-1]), 0})
		}
	}
	want(t, "Show of nil", m.Show(nil), api.OK)
	wantAll(t, "nothing shown", m, rising(101, 16), nil)
}

// P9.1: a window that is too long leaves the one that is there.
func TestShowOfTooMuch(t *testing.T) {
	for _, n := range []int{0, 5, 65536} {
		m := made(t, 8, rising(1, n))
		for _, more := range []int{65537, 65540, 1 << 17, 1 << 20} {
			want(t, "Show", m.Show(make([]byte, more)), api.ErrArg)
			wantAll(t, "not shown", m, rising(101, 8), rising(1, n))
		}
		want(t, "Show of 65536", m.Show(rising(9, 65536)), api.OK)
		wantAll(t, "shown", m, rising(101, 8), rising(9, 65536))
	}
}

// P9.1 (R3): windows are neither kept nor changed, nor is what is behind them.
func TestWindowStaysTheCallers(t *testing.T) {
	whole := rising(1, 20)
	m := made(t, 8, whole[:5])
	whole[0] = 99
	wantAll(t, "with the window of New changed", m, rising(101, 8), rising(1, 5))
	whole[0] = 1
	want(t, "Show", m.Show(whole[3:9]), api.OK)
	clear(whole)
	wantAll(t, "with the window of Show cleared", m, rising(101, 8), rising(4, 6))
	want(t, "Move", m.Move(win, ram, 6), api.ThrowNone)
	want(t, "Fill", m.Fill(ram, 8, 77), api.ThrowNone)
	wantBytes(t, "the caller's bytes", whole, make([]byte, 20))
	want(t, "Show of no bytes", m.Show(whole[:0]), api.OK)
	wantBytes(t, "the caller's bytes", whole, make([]byte, 20))
}

// P9.1 (R3): what Ram told stays as it is, and is not the memory's.
func TestRamHasMemoryOfItsOwn(t *testing.T) {
	m := made(t, 8, rising(1, 5))
	first, second := m.Ram(), m.Ram()
	first[0] = 9
	_ = append(first[:3], 9, 9, 9)
	wantBytes(t, "second list", second, rising(101, 8))
	wantAll(t, "with the list changed", m, rising(101, 8), rising(1, 5))
	want(t, "Fill", m.Fill(ram, 8, 0), api.ThrowNone)
	wantBytes(t, "second list", second, rising(101, 8))
	wantBytes(t, "first list", first, []byte{9, 102, 103, 9, 9, 9, 107, 108})
}

// nones are memories that New did not return.
func nones(t *testing.T) map[string]*mem.Memory {
	byValue := *made(t, 16, rising(1, 9))
	return map[string]*mem.Memory{"nil": nil, "zero": {}, "new": new(mem.Memory), "by value": &byValue}
}

// P9.1, P9.3 (R5): a memory that is none has no bytes, not even none at all, whatever the address is.
func TestNones(t *testing.T) {
	for name, m := range nones(t) {
		for range 2 { // the second time tells whether the first one changed anything
			want(t, name+": Show", m.Show([]byte{1, 2, 3, 4}), api.ErrNil)
			want(t, name+": Show of nothing", m.Show(nil), api.ErrNil)
			want(t, name+": Show of too much", m.Show(make([]byte, 65537)), api.ErrNil)
			wantBytes(t, name+": Ram", m.Ram(), nil)
			for _, at := range []uint32{0, 1, win, win + 1, win + 2, win + 4, ram, ram + 3, ram + 4, ram + 16, math.MaxUint32} {
				want(t, name+": Load", cell(m.Load(at)), told{0, memory})
				want(t, name+": Store", m.Store(at, 5), memory)
				want(t, name+": Byte", one(m.Byte(at)), told{0, memory})
				want(t, name+": SetByte", m.SetByte(at, 5), memory)
				for _, n := range []uint32{0, 1, 4, 16, math.MaxUint32} {
					wantThrow(t, name, m, at, n, memory)
					want(t, name+": Move", m.Move(at, ram, n), memory)
					want(t, name+": Move", m.Move(ram, at, n), memory)
					want(t, name+": Fill", m.Fill(at, n, 5), memory)
				}
			}
		}
	}
}

// P9.1 (R5): a memory does not become another one by an assignment, nor does it lose anything by it.
func TestAssignedByValue(t *testing.T) {
	m := made(t, 8, rising(1, 5))
	other := *m
	want(t, "Fill of the other one", other.Fill(ram, 8, 0), memory)
	want(t, "Store to the other one", other.Store(ram, 0), memory)
	want(t, "Move of the other one", other.Move(win, ram, 5), memory)
	want(t, "Show of the other one", other.Show(nil), api.ErrNil)
	wantAll(t, "original", m, rising(101, 8), rising(1, 5))
	want(t, "Fill", m.Fill(ram, 8, 7), api.ThrowNone)
	wantAll(t, "original, filled", m, bytes.Repeat([]byte{7}, 8), rising(1, 5))
}

// P9.1: memories have nothing in common, not even if they are given the same window.
func TestMemoriesAreSeparate(t *testing.T) {
	window := rising(1, 6)
	a, b := made(t, 8, window), made(t, 12, window)
	want(t, "Fill of one", a.Fill(ram, 8, 0), api.ThrowNone)
	want(t, "Show of one", a.Show(rising(60, 3)), api.OK)
	wantAll(t, "one", a, make([]byte, 8), rising(60, 3))
	wantAll(t, "two", b, rising(101, 12), window)
	wantAll(t, "a new one", fresh(t, 8, window), make([]byte, 8), window)
}
