package cfg_test

import (
	"bytes"
	"math"
	"testing"

	"lightship/api"
	"lightship/cfg"
	"lightship/flash"
	"lightship/record"
	"lightship/ring"
)

// P6.1.
func TestRoom(t *testing.T) {
	if n := cfg.Room(); n != 236 || n != api.Sector-ring.Head() {
		t.Errorf("Room: %d", n)
	}
}

// P6.1: keys of 1 to 16 bytes, values of up to 64, and others, which weigh nothing.
func TestWeight(t *testing.T) {
	for k := range 20 {
		for v := range 70 {
			wanted := roundedUp(k + v)
			if k == 0 || k > 16 || v > 64 {
				wanted = 0
			} else if wanted != record.Size(2+k+v) {
				t.Errorf("record.Size(%d): %d, want %d", 2+k+v, record.Size(2+k+v), wanted)
			}
			wantWeight(t, k, v, wanted)
		}
	}
	wantWeight(t, 1, 1, 16)
	wantWeight(t, 1, 64, 80)
	wantWeight(t, 16, 64, 96)
	for _, n := range []int{255, 256, 257, 258, 4080, 4081, 70000} {
		wantWeight(t, n, 1, 0)
		wantWeight(t, 1, n, 0)
		wantWeight(t, n, n, 0)
	}
}

func wantWeight(t *testing.T, k, v, wanted int) {
	t.Helper()
	for _, x := range []byte{0, 'a', 255} {
		key, val := bytes.Repeat([]byte{x}, k), bytes.Repeat([]byte{x}, v)
		if n := cfg.Weight(key, val); n != wanted {
			t.Errorf("Weight of %d and %d bytes %d: %d, want %d", k, v, x, n, wanted)
		}
	}
	if n := cfg.Weight(make([]byte, k, k+100), make([]byte, v, v+100)); n != wanted {
		t.Errorf("Weight of %d and %d bytes with spare capacity: %d, want %d", k, v, n, wanted)
	}
}

// rings are those of a flash of 8 sectors, at its beginning, its end, and between.
var rings = []api.Ring{{First: 0, Count: 3}, {First: 5, Count: 3}, {First: 1, Count: 3}, {First: 2, Count: 4}, {First: 0, Count: 8}}

// P6.1: the first sector is in use, with the number 1, and nothing else is changed.
func TestMake(t *testing.T) {
	for _, r := range rings {
		f, m := made(t, r)
		wanted := ones(8 * api.Sector)
		copy(wanted[r.First*api.Sector:], definedHead(1))
		wantBytes(t, "Make", contents(t, f), wanted)
		if n := f.Wear(r.First); n != 0 {
			t.Errorf("a free sector was erased: wear %d", n)
		}
		wantEntries(t, "a new ring", f, r, nil)
		wantKept(t, "Make again", f, func() { want(t, "Make again", cfg.Make(f, r), api.OK) })
		setBoth(t, f, m, "a", "1", api.OK)
		wantKept(t, "Make later", f, func() { want(t, "Make later", cfg.Make(f, r), api.OK) })
	}
}

// P6.1: a first sector with something in it is erased; whatever the others have stays.
func TestMakeOverSomething(t *testing.T) {
	last := ones(api.Sector)
	last[api.Sector-1] = 254
	for _, b := range [][]byte{{254, 255, 255, 255}, last, definedHead(7)[:16], definedRecord(setOf("a", "1")), append(ones(20), definedRecord(setOf("a", "1"))...), make([]byte, api.Sector)} {
		for _, r := range rings {
			f := newFlash(t, 8)
			for sector := range 8 {
				want(t, "Program", f.Program(sector*api.Sector, b), api.OK)
			}
			m := modelOf(t, f, r)
			want(t, "Make", cfg.Make(f, r), api.OK)
			m.make()
			wantModel(t, "Make over something", f, m)
			wantEntries(t, "Make over something", f, r, nil)
			if n := f.Wear(r.First); n != 1 {
				t.Errorf("Make over something: wear %d", n)
			}
		}
	}
}

// P6.1: a ring that is in use stays as it is, whichever of its sectors is live, with whatever number.
func TestMakeOfARingInUse(t *testing.T) {
	for _, number := range []uint32{0, 1, 2, 77, math.MaxUint32} {
		for _, r := range rings {
			for sector := r.First; sector < r.First+r.Count; sector++ {
				f := newFlash(t, 8)
				if sector != r.First {
					want(t, "Program", f.Program(r.First*api.Sector, make([]byte, 8)), api.OK)
				}
				want(t, "Open", ring.Open(f, sector, number), api.OK)
				wantKept(t, "Make", f, func() { want(t, "Make", cfg.Make(f, r), api.OK) })
			}
		}
	}
}

// P6.1: heads outside the ring don't put it in use.
func TestMakeBesideOtherHeads(t *testing.T) {
	f := newFlash(t, 8)
	want(t, "Open", ring.Open(f, 1, 9), api.OK)
	want(t, "Open", ring.Open(f, 6, 9), api.OK)
	m := modelOf(t, f, middle)
	want(t, "Make", cfg.Make(f, middle), api.OK)
	m.make()
	wantModel(t, "Make beside other heads", f, m)
}

// P6.1, P6.4: a Make that is torn leaves no sector in use, or the first one without entries, and can be done again.
func TestTornMake(t *testing.T) {
	for _, before := range [][]byte{nil, make([]byte, 32)} {
		for _, mask := range masks(256) {
			for n := 0; ; n++ {
				f := newFlash(t, 8)
				want(t, "Program", f.Program(2*api.Sector, before), api.OK)
				want(t, "Arm", f.Arm(n, mask), api.OK)
				e := cfg.Make(f, middle)
				down := f.Down()
				if down {
					want(t, "torn Make", e, api.ErrDown)
				}
				want(t, "Up", f.Up(), api.OK)
				if !down {
					break
				}
				if l, e := cfg.All(f, middle); e != api.ErrRing && e != api.OK || l != nil {
					t.Errorf("Make torn at %d by %v: %v, error %d", n, mask, l, e)
				}
				want(t, "Make again", cfg.Make(f, middle), api.OK)
				wantEntries(t, "Make again", f, middle, nil)
			}
		}
	}
}

// noRings are rings that a flash of 8 sectors does not have.
var noRings = []api.Ring{{}, {First: 0, Count: 2}, {First: 2, Count: 1}, {First: 2, Count: 0}, {First: 2, Count: -1}, {First: 2, Count: -3}, {First: 6, Count: 3}, {First: 5, Count: 4}, {First: 0, Count: 9}, {First: 8, Count: 3}, {First: -1, Count: 3}, {First: -3, Count: 3}, {First: -8, Count: 8},
	{First: math.MaxInt, Count: 3}, {First: math.MinInt, Count: 3}, {First: 3, Count: math.MaxInt}, {First: 3, Count: math.MinInt}, {First: math.MaxInt, Count: math.MaxInt}, {First: math.MinInt, Count: math.MaxInt}, {First: math.MaxInt/api.Sector + 1, Count: 3}}

// wantError fails unless all functions with a ring return that error, whatever the key and the value, and nothing else.
func wantError(t *testing.T, what string, f *flash.Flash, r api.Ring, wanted api.Errno) {
	t.Helper()
	if l, e := cfg.All(f, r); l != nil || e != wanted {
		t.Errorf("%s: All: %v, error %d, want %d", what, l, e, wanted)
	}
	for _, key := range [][]byte{[]byte("a"), nil, {}, make([]byte, 16), make([]byte, 17), make([]byte, 5000)} {
		if b, ok, e := cfg.Get(f, r, key); b != nil || ok || e != wanted {
			t.Errorf("%s: Get: %v, %v, error %d, want %d", what, b, ok, e, wanted)
		}
		want(t, what+": Delete", cfg.Delete(f, r, key), wanted)
		for _, val := range [][]byte{[]byte("1"), nil, make([]byte, 64), make([]byte, 65), make([]byte, 5000)} {
			want(t, what+": Set", cfg.Set(f, r, key, val), wanted)
		}
	}
}

// The errors of ring.Look come before all others: no flash, no ring, no power.
func TestErrorsOfLook(t *testing.T) {
	f, _ := made(t, api.Ring{First: 0, Count: 8})
	down := downFlash(t)
	for _, r := range noRings {
		for name, none := range nones(t) {
			wantError(t, "a flash that is "+name, none, r, api.ErrNil)
			want(t, "Make", cfg.Make(none, r), api.ErrNil)
		}
		wantKept(t, "no ring", f, func() {
			wantError(t, "no ring", f, r, api.ErrRing)
			want(t, "Make", cfg.Make(f, r), api.ErrRing)
		})
		wantError(t, "no ring, without power", down, r, api.ErrRing)
		want(t, "Make", cfg.Make(down, r), api.ErrRing)
	}
	for _, r := range rings {
		for name, none := range nones(t) {
			wantError(t, "a flash that is "+name, none, r, api.ErrNil)
			want(t, "Make", cfg.Make(none, r), api.ErrNil)
		}
		wantError(t, "without power", down, r, api.ErrDown)
		want(t, "Make", cfg.Make(down, r), api.ErrDown)
	}
}

// A ring without a sector in use: ErrRing from all but Make, ahead of ErrArg and ErrKey, and nothing is done.
func TestRingsThatAreNotInUse(t *testing.T) {
	for _, b := range [][]byte{nil, {0, 0, 0, 0}, definedHead(3)[:16], append(ones(20), definedRecord(setOf("a", "1"))...), definedRecord(setOf("a", "1"))} {
		f := newFlash(t, 8)
		for sector := range 8 {
			want(t, "Program", f.Program(sector*api.Sector, b), api.OK)
		}
		for _, r := range rings {
			wantKept(t, "a ring that is not in use", f, func() { wantError(t, "a ring that is not in use", f, r, api.ErrRing) })
		}
	}
	f, _ := made(t, api.Ring{First: 0, Count: 3})
	wantKept(t, "a ring beside one in use", f, func() {
		wantError(t, "a ring beside one in use", f, api.Ring{First: 1, Count: 3}, api.ErrRing)
	})
}
