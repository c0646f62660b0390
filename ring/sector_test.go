package ring_test

import (
	"math"
	"testing"

	"lightship/api"
	"lightship/flash"
	"lightship/ring"
)

// notThere are sectors that a flash of 8 does not have; the position of some would wrap round to that of one that it has.
var notThere = []int{-1, -8, 8, 9, 256, math.MaxInt, math.MinInt, math.MaxInt/api.Sector + 1, math.MinInt / api.Sector, 2 * (math.MaxInt/api.Sector + 1), 2*(math.MaxInt/api.Sector+1) + 2}

// P5.3: what is not free is erased, whatever it is, and nothing else.
func TestClear(t *testing.T) {
	last := ones(api.Sector)
	last[api.Sector-1] = 254
	for _, b := range [][]byte{{254, 255, 255, 255}, last, definedHead(7), definedHead(7)[:8], make([]byte, api.Sector), definedRecord([]byte("other"))} {
		for _, sector := range []int{0, 3, 7} {
			f := newFlash(t, 8)
			want(t, "Program", f.Program(0, make([]byte, 8*api.Sector)), api.OK)
			want(t, "Erase", f.Erase(sector), api.OK)
			want(t, "Program", f.Program(sector*api.Sector, b), api.OK)
			wanted := make([]byte, 8*api.Sector)
			copy(wanted[sector*api.Sector:], ones(api.Sector))
			want(t, "Clear", ring.Clear(f, sector), api.OK)
			wantBytes(t, "Clear", contents(t, f), wanted)
			for s := range 8 {
				if n := f.Wear(s); s == sector && n != 2 || s != sector && n != 0 {
					t.Errorf("Clear of %d: wear %d of %d", sector, n, s)
				}
			}
		}
	}
}

// P5.3: a free sector is not erased, so that it isn't worn, and no operation counts.
func TestClearOfFreeSectors(t *testing.T) {
	f := wornFlash(t, 0, 1, 2, 0, 0, 0, 0, 3)
	for sector := range 8 {
		wantKept(t, "Clear of a free sector", f, func() { want(t, "Clear", ring.Clear(f, sector), api.OK) })
	}
	want(t, "Program", f.Program(5*api.Sector, make([]byte, 4)), api.OK)
	for range 3 {
		want(t, "Clear", ring.Clear(f, 5), api.OK)
		if n := f.Wear(5); n != 1 {
			t.Errorf("Clear again and again: wear %d", n)
		}
	}
}

// P5.3: a torn erase is told, and leaves what flash leaves.
func TestClearTorn(t *testing.T) {
	for _, mask := range [][]byte{nil, {7}, ones(100), ones(api.Sector)} {
		f := newFlash(t, 8)
		want(t, "Open", ring.Open(f, 2, 5), api.OK)
		want(t, "Arm", f.Arm(0, mask), api.OK)
		want(t, "torn Clear", ring.Clear(f, 2), api.ErrDown)
		want(t, "Clear without power", ring.Clear(f, 2), api.ErrDown)
		want(t, "Up", f.Up(), api.OK)
		wanted := make([]byte, api.Sector)
		copy(wanted, mask)
		wantBytes(t, "torn Clear", contents(t, f)[2*api.Sector:][:api.Sector], wanted)
		if n := f.Wear(2); n != 1 {
			t.Errorf("torn Clear: wear %d", n)
		}
	}
}

// P5.3: a head, at the beginning of its sector, and nothing else.
func TestOpen(t *testing.T) {
	for _, number := range numbers() {
		for _, sector := range []int{0, 4, 7} {
			f := newFlash(t, 8)
			wanted := ones(8 * api.Sector)
			copy(wanted[sector*api.Sector:], definedHead(number))
			want(t, "Open", ring.Open(f, sector, number), api.OK)
			wantBytes(t, "Open", contents(t, f), wanted)
			for s := range 8 {
				if n := f.Wear(s); n != 0 {
					t.Errorf("Open of %d: wear %d of %d", sector, n, s)
				}
			}
		}
	}
}

// P5.3: to open is to write: what is there is not erased, and bits that are cleared stay so.
func TestOpenOverSomething(t *testing.T) {
	f := newFlash(t, 8)
	d := dice(3)
	wanted := d.bytes(api.Sector)
	want(t, "Program", f.Program(2*api.Sector, wanted), api.OK)
	want(t, "Open", ring.Open(f, 2, 0x0f0f0f0f), api.OK)
	for i, b := range definedHead(0x0f0f0f0f) {
		wanted[i] &= b
	}
	wantBytes(t, "Open over something", contents(t, f)[2*api.Sector:][:api.Sector], wanted)
}

// P5.3: what stands behind the room of a head stays.
func TestOpenAheadOfSomething(t *testing.T) {
	f := newFlash(t, 8)
	d := dice(4)
	behind := d.bytes(api.Sector - 20)
	want(t, "Program", f.Program(6*api.Sector+20, behind), api.OK)
	want(t, "Open", ring.Open(f, 6, 8), api.OK)
	wantBytes(t, "Open ahead of something", contents(t, f)[6*api.Sector:][:api.Sector], append(definedHead(8), behind...))
	wantLook(t, "it", f, 5, api.Header{Sector: 5}, api.Header{Sector: 6, Kind: 1, Number: 8}, api.Header{Sector: 7})
}

// P5.3: writing a head is the three programs of a record.
func TestOpenIsThreePrograms(t *testing.T) {
	for n, reached := range []int{0, 4, 16} {
		f := newFlash(t, 8)
		want(t, "Arm", f.Arm(n, nil), api.OK)
		want(t, "torn Open", ring.Open(f, 1, 9), api.ErrDown)
		want(t, "Open without power", ring.Open(f, 1, 9), api.ErrDown)
		want(t, "Up", f.Up(), api.OK)
		wanted := ones(api.Sector)
		copy(wanted, definedHead(9)[:reached])
		wantBytes(t, "torn Open", contents(t, f)[api.Sector:][:api.Sector], wanted)
	}
	f := newFlash(t, 8)
	want(t, "Arm", f.Arm(3, nil), api.OK)
	want(t, "Open", ring.Open(f, 1, 9), api.OK)
	want(t, "torn Erase", f.Erase(1), api.ErrDown)
}

// P5.3, R2: sectors that are not there.
func TestSectorsThatAreNotThere(t *testing.T) {
	f := newFlash(t, 8)
	want(t, "Program", f.Program(0, make([]byte, 8*api.Sector)), api.OK)
	free := newFlash(t, 8)
	for _, sector := range notThere {
		wantKept(t, "Clear of no sector", f, func() { want(t, "Clear", ring.Clear(f, sector), api.ErrBounds) })
		wantKept(t, "Clear of no sector", free, func() { want(t, "Clear", ring.Clear(free, sector), api.ErrBounds) })
		wantKept(t, "Open of no sector", free, func() { want(t, "Open", ring.Open(free, sector, 1), api.ErrBounds) })
	}
	big := newFlash(t, 256)
	want(t, "Open of the last sector", ring.Open(big, 255, 1), api.OK)
	want(t, "Clear of the last sector", ring.Clear(big, 255), api.OK)
	want(t, "Open behind the last sector", ring.Open(big, 256, 1), api.ErrBounds)
}

// P5.3, R5: no flash, no power, and the order of the errors.
func TestErrorsOfClearAndOpen(t *testing.T) {
	wantBoth := func(f *flash.Flash, sector int, wanted api.Errno) {
		t.Helper()
		want(t, "Clear", ring.Clear(f, sector), wanted)
		want(t, "Open", ring.Open(f, sector, 1), wanted)
	}
	down := downFlash(t)
	for _, sector := range append(notThere, 0, 1, 7) {
		for _, f := range nones(t) {
			wantBoth(f, sector, api.ErrNil)
		}
		wantBoth(down, sector, api.ErrDown)
	}
	want(t, "Up", down.Up(), api.OK)
	wantBytes(t, "what was refused", contents(t, down), append(make([]byte, api.Sector), ones(7*api.Sector)...))
}
