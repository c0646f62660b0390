package ring_test

import (
	"math"
	"slices"
	"testing"

	"lightship/api"
	"lightship/flash"
	"lightship/record"
	"lightship/ring"
)

func wantLook(t *testing.T, what string, f *flash.Flash, first int, wanted ...api.Header) {
	t.Helper()
	got, e := ring.Look(f, first, len(wanted))
	if e != api.OK || !slices.Equal(got, wanted) {
		t.Errorf("Look at %s: %v, error %d, want %v", what, got, e, wanted)
	}
}

// wantKind lays bytes at the beginning of a sector between two others, and looks at all three.
func wantKind(t *testing.T, what string, b []byte, wanted api.Header) {
	t.Helper()
	f := newFlash(t, 8)
	want(t, "Program", f.Program(4*api.Sector, b), api.OK)
	wanted.Sector = 4
	wantLook(t, what, f, 3, api.Header{Sector: 3}, wanted, api.Header{Sector: 5})
}

func live(number uint32) api.Header { return api.Header{Kind: api.SectorLive, Number: number} }

var dirty = api.Header{Kind: api.SectorDirty}

// P5.1.
func TestHeadIsTheSizeOfItsRecord(t *testing.T) {
	if n := ring.Head(); n != 20 || n != record.Size(5) || n != len(definedHead(1)) {
		t.Errorf("Head: %d", n)
	}
}

// P5.1: sectors that were never erased, and such as were, are free alike.
func TestLookAtFreeSectors(t *testing.T) {
	for _, sectors := range []int{8, 9, 56, 256} {
		f := newFlash(t, sectors)
		want(t, "Erase", f.Erase(1), api.OK)
		for _, r := range [][2]int{{0, 3}, {0, sectors}, {1, 3}, {2, 4}, {sectors - 3, 3}, {1, sectors - 1}} {
			wanted := make([]api.Header, r[1])
			for i := range wanted {
				wanted[i] = api.Header{Sector: r[0] + i, Kind: api.SectorFree}
			}
			wantLook(t, "free sectors", f, r[0], wanted...)
		}
	}
}

// P5.1: a sector is live by its head, whatever is behind it, and tells its number.
func TestLookAtLiveSectors(t *testing.T) {
	d := dice(5)
	for _, number := range numbers() {
		head := definedHead(number)
		wantKind(t, "a head", head, live(number))
		wantKind(t, "a head and zeros", append(head, make([]byte, api.Sector-20)...), live(number))
		wantKind(t, "a head and anything", append(head, d.bytes(api.Sector-20)...), live(number))
		wantKind(t, "a head and another", append(head, definedHead(^number)...), live(number))
	}
}

// P5.1: any byte that is not 255 makes a sector dirty, also the last one.
func TestLookAtOneByte(t *testing.T) {
	for i := range api.Sector {
		for _, v := range []byte{0, 127, 254} {
			b := ones(api.Sector)
			b[i] = v
			wantKind(t, "one byte", b, dirty)
		}
	}
}

// P5.1: a head with any bit changed is none.
func TestLookAtChangedHeads(t *testing.T) {
	for _, number := range []uint32{0, 1, 0xffffffff, 0x12345678} {
		b := definedHead(number)
		for bit := range 8 * len(b) {
			b[bit/8] ^= 1 << (bit % 8)
			wantKind(t, "a head with one bit changed", b, dirty)
			b[bit/8] ^= 1 << (bit % 8)
		}
	}
}

// P5.1: a head that is torn, or not at the beginning.
func TestLookAtPiecesOfHeads(t *testing.T) {
	head := definedHead(77)
	for n := 4; n < len(head); n += 4 {
		wantKind(t, "the beginning of a head", head[:n], dirty)
		wantKind(t, "the end of a head", head[n:], dirty)
		wantKind(t, "a head later on", append(ones(n), head...), dirty)
	}
	wantKind(t, "a head behind a record", append(definedRecord(nil), head...), dirty)
	wantKind(t, "a head at the end", append(ones(api.Sector-20), head...), dirty)
}

// P5.1: records whose payloads are no heads', though each one is there as a whole.
func TestLookAtOtherRecords(t *testing.T) {
	for _, p := range []string{"", "R", "R\x00\x00\x00", "R\x00\x00\x00\x00\x07", "R\x00\x00\x00\x07\xff", "r\x00\x00\x00\x07", "Q\x00\x00\x00\x07", "\x00\x00\x00\x07R", "\x00\x00\x00\x00\x00", "RRRRRRRRR"} {
		wantKind(t, "another record", definedRecord([]byte(p)), dirty)
	}
	f := newFlash(t, 8)
	want(t, "Write", record.Write(f, 2*api.Sector, make([]byte, 600)), api.OK)
	wantLook(t, "a record of several sectors", f, 1, api.Header{Sector: 1}, api.Header{Sector: 2, Kind: 2}, api.Header{Sector: 3, Kind: 2}, api.Header{Sector: 4, Kind: 2}, api.Header{Sector: 5})
}

// P5.1: a head that reaches over the end of its sector is no sector's.
func TestLookAtAHeadOverTheEdge(t *testing.T) {
	f := newFlash(t, 8)
	want(t, "Program", f.Program(3*api.Sector-8, definedHead(6)), api.OK)
	wantLook(t, "a head over the edge", f, 1, api.Header{Sector: 1}, api.Header{Sector: 2, Kind: 2}, api.Header{Sector: 3, Kind: 2})
}

// P5.1: sectors of all kinds side by side, against the chapter's Terms.
func TestLookAtMixtures(t *testing.T) {
	for seed := range 60 {
		d := dice(seed)
		f := newFlash(t, 8+d.below(9))
		for sector := range f.Sectors() {
			want(t, "Program", f.Program(sector*api.Sector, mixture(&d)), api.OK)
		}
		b := contents(t, f)
		first := d.below(f.Sectors() - 2)
		var wanted []api.Header
		for sector := first; sector < f.Sectors(); sector++ {
			wanted = append(wanted, definedHeader(sector, b[sector*api.Sector:][:api.Sector]))
		}
		wantLook(t, "a mixture", f, first, wanted...)
	}
}

// mixture is what may be at the beginning of a sector: nothing, anything, a head, a part of one, or one with bits cleared.
func mixture(d *dice) []byte {
	b := definedHead(uint32(d.below(1 << 24)))
	switch d.below(6) {
	case 0:
		return nil
	case 1:
		return d.bytes(4 * d.below(64))
	case 2:
		return b[:4*d.below(5)]
	case 3:
		b[d.below(len(b))] &= byte(d.below(256))
	}
	return b
}

// P5.1: rings that are too small, or not all there.
func TestLookAtNoRing(t *testing.T) {
	f := newFlash(t, 8)
	for _, r := range [][2]int{{0, 2}, {2, 2}, {2, 1}, {2, 0}, {2, -1}, {2, -3}, {6, 3}, {5, 4}, {0, 9}, {8, 3}, {9, 3}, {-1, 3}, {-3, 3}, {-1, 9}, {-8, 8},
		{math.MaxInt, 3}, {math.MinInt, 3}, {3, math.MaxInt}, {3, math.MinInt}, {math.MaxInt, math.MaxInt}, {math.MinInt, math.MinInt}, {-1, math.MaxInt}, {math.MaxInt - 2, 3}, {math.MinInt, math.MaxInt}} {
		if l, e := ring.Look(f, r[0], r[1]); l != nil || e != api.ErrRing {
			t.Errorf("Look(%d, %d): %v, error %d, want %d", r[0], r[1], l, e, api.ErrRing)
		}
	}
}

// P5.1, R5: no flash, and the order of the errors.
func TestErrorsOfLook(t *testing.T) {
	for name, f := range nones(t) {
		for _, r := range [][2]int{{0, 3}, {0, 2}, {-1, 3}, {0, 0}} {
			if l, e := ring.Look(f, r[0], r[1]); l != nil || e != api.ErrNil {
				t.Errorf("Look(%d, %d) at a flash that is %s: %v, error %d", r[0], r[1], name, l, e)
			}
		}
	}
	down := downFlash(t)
	for _, x := range []struct {
		first, count int
		wanted       api.Errno
	}{{0, 3, api.ErrDown}, {0, 8, api.ErrDown}, {0, 2, api.ErrRing}, {6, 3, api.ErrRing}, {-1, 3, api.ErrRing}} {
		if l, e := ring.Look(down, x.first, x.count); l != nil || e != x.wanted {
			t.Errorf("Look(%d, %d) without power: %v, error %d, want %d", x.first, x.count, l, e, x.wanted)
		}
	}
}

// R3: looking changes nothing, and headers are in memory of their own.
func TestLookOnly(t *testing.T) {
	f := newFlash(t, 8)
	want(t, "Open", ring.Open(f, 2, 5), api.OK)
	want(t, "Program", f.Program(3*api.Sector, make([]byte, 4)), api.OK)
	wantKept(t, "Look", f, func() {
		l, e := ring.Look(f, 1, 4)
		want(t, "Look", e, api.OK)
		clear(l[:cap(l)])
		wantLook(t, "a ring again", f, 1, api.Header{Sector: 1}, api.Header{Sector: 2, Kind: 1, Number: 5}, api.Header{Sector: 3, Kind: 2}, api.Header{Sector: 4})
	})
}
