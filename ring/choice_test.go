package ring_test

import (
	"math"
	"slices"
	"testing"

	"lightship/api"
	"lightship/flash"
	"lightship/ring"
)

func wantNewest(t *testing.T, l []api.Header, wanted api.Header, there bool) {
	t.Helper()
	before := slices.Clone(l)
	if got, ok := ring.Newest(l); got != wanted || ok != there {
		t.Errorf("Newest of %v: %v, %v, want %v, %v", l, got, ok, wanted, there)
	}
	if !slices.Equal(l, before) {
		t.Errorf("Newest changed %v to %v", before, l)
	}
}

// P5.2.
func TestNewest(t *testing.T) {
	a, b, c := api.Header{Sector: 3, Kind: 1, Number: 9}, api.Header{Sector: 2, Kind: 1, Number: 10}, api.Header{Sector: 7, Kind: 1, Number: 1}
	for _, l := range [][]api.Header{{a, b, c}, {b, a, c}, {c, a, b}, {b}, {a, b}, {b, c}} {
		wantNewest(t, l, b, true)
	}
	for _, number := range numbers() { // numbers are whole: no bit is a sign
		x := api.Header{Sector: 5, Kind: 1, Number: number}
		if number > 0 {
			wantNewest(t, []api.Header{{Sector: 4, Kind: 1, Number: number - 1}, x, {Sector: 6, Kind: 1}}, x, true)
		}
		if number < math.MaxUint32 {
			wantNewest(t, []api.Header{{Sector: 4, Kind: 1, Number: number}, {Sector: 5, Kind: 1, Number: number + 1}}, api.Header{Sector: 5, Kind: 1, Number: number + 1}, true)
		}
	}
}

// P5.2: of numbers that are alike the first one in the list counts, wherever its sector is.
func TestNewestOfNumbersThatAreAlike(t *testing.T) {
	for _, number := range numbers() {
		a, b, c := api.Header{Sector: 6, Kind: 1, Number: number}, api.Header{Sector: 2, Kind: 1, Number: number}, api.Header{Sector: 9, Kind: 1, Number: number}
		wantNewest(t, []api.Header{a, b, c}, a, true)
		wantNewest(t, []api.Header{b, a, c}, b, true)
		wantNewest(t, []api.Header{c, b, a}, c, true)
		wantNewest(t, []api.Header{{Sector: 1}, {Sector: 1, Kind: 2, Number: number}, a, b}, a, true)
	}
}

// P5.2: only what is live counts, even with the number 0.
func TestNewestOfOtherKinds(t *testing.T) {
	zero := api.Header{Sector: 4, Kind: 1}
	wantNewest(t, []api.Header{{Sector: 1, Number: 7}, {Sector: 2, Kind: 2, Number: 8}, zero, {Sector: 5, Kind: 3, Number: 9}, {Sector: 5, Kind: 255, Number: 9}}, zero, true)
	for _, l := range [][]api.Header{nil, {}, {{Sector: 1}}, {{Sector: 1, Number: 7}, {Sector: 2, Kind: 2, Number: 8}}, {{Sector: 3, Kind: 3, Number: 1}}} {
		wantNewest(t, l, api.Header{}, false)
	}
	odd := api.Header{Sector: -3, Kind: 1, Number: 2}
	wantNewest(t, []api.Header{{Sector: 2, Kind: 1, Number: 1}, odd}, odd, true)
}

// wornFlash is a flash whose sectors were erased that often.
func wornFlash(t *testing.T, worn ...int) *flash.Flash {
	t.Helper()
	f := newFlash(t, len(worn))
	for sector, n := range worn {
		for range n {
			want(t, "Erase", f.Erase(sector), api.OK)
		}
	}
	return f
}

func headers(sectors ...int) []api.Header {
	var l []api.Header
	for _, sector := range sectors {
		l = append(l, api.Header{Sector: sector})
	}
	return l
}

func wantPick(t *testing.T, f *flash.Flash, l []api.Header, but, wanted int, e api.Errno) {
	t.Helper()
	before := slices.Clone(l)
	if got, err := ring.Pick(f, l, but); got != wanted || err != e {
		t.Errorf("Pick of %v but %d: %d, error %d, want %d, error %d", l, but, got, err, wanted, e)
	}
	if !slices.Equal(l, before) {
		t.Errorf("Pick changed %v to %v", before, l)
	}
}

// P5.2: the least wear, of several the first one in the list.
func TestPick(t *testing.T) {
	f := wornFlash(t, 3, 1, 2, 1, 0, 5, 1, 0)
	for _, x := range []struct {
		l           []api.Header
		but, wanted int
	}{
		{headers(0, 1, 2, 3, 4, 5, 6, 7), -1, 4},
		{headers(0, 1, 2, 3, 4, 5, 6, 7), 4, 7},
		{headers(7, 6, 5, 4, 3, 2, 1, 0), 3, 7},
		{headers(0, 1, 2, 3), 0, 1},
		{headers(0, 1, 2, 3), 1, 3},
		{headers(3, 2, 1, 0), 0, 3},
		{headers(2, 1, 3, 6), 2, 1},
		{headers(5, 0), 8, 0},
		{headers(5, 0), 0, 5},
		{headers(5), 0, 5},
		{headers(4, 4, 2), 4, 2},
		{headers(2, 2), 1, 2},
	} {
		wantPick(t, f, x.l, x.but, x.wanted, api.OK)
	}
}

// P5.2: of sectors that were never erased the first one is picked.
func TestPickOfUnwornSectors(t *testing.T) {
	f := newFlash(t, 8)
	wantPick(t, f, headers(2, 3, 4), -1, 2, api.OK)
	wantPick(t, f, headers(2, 3, 4), 2, 3, api.OK)
	wantPick(t, f, headers(2, 3, 4), 3, 2, api.OK)
	wantPick(t, f, headers(4, 3, 2), 2, 4, api.OK)
}

// P5.2: kinds and numbers of headers don't count, nor does what is on the sectors now.
func TestPickGoesByWearAlone(t *testing.T) {
	f := wornFlash(t, 1, 0, 2, 0, 0, 0, 0, 0)
	want(t, "Open", ring.Open(f, 1, 99), api.OK)
	wantPick(t, f, []api.Header{{Sector: 0}, {Sector: 1, Kind: 1, Number: 99}, {Sector: 2}}, 0, 1, api.OK)
	wantPick(t, f, []api.Header{{Sector: 0}, {Sector: 1, Kind: 2}, {Sector: 2, Kind: 9, Number: 1}}, 2, 1, api.OK)
	wantPick(t, f, []api.Header{{Sector: 2}, {Sector: 0, Kind: 1, Number: math.MaxUint32}}, 1, 0, api.OK)
}

// P5.2: headers of sectors that are not there have the wear that flash.Wear returns for them, 0.
func TestPickOfSectorsThatAreNotThere(t *testing.T) {
	f := wornFlash(t, 1, 1, 1, 0, 0, 0, 0, 0)
	for _, sector := range []int{-1, 8, math.MaxInt, math.MinInt} {
		wantPick(t, f, headers(0, 1, sector), 0, sector, api.OK)
		wantPick(t, f, headers(0, 1, sector), sector, 0, api.OK)
		wantPick(t, f, headers(3, sector), 0, 3, api.OK)
		wantPick(t, f, headers(sector), sector, 0, api.ErrRing)
	}
}

// P5.2: no flash, no header, and no header but one sector's.
func TestErrorsOfPick(t *testing.T) {
	f := newFlash(t, 8)
	for _, l := range [][]api.Header{nil, {}, headers(5), headers(5, 5, 5), {{Sector: 5, Kind: 1, Number: 3}, {Sector: 5, Kind: 2}}} {
		wantPick(t, f, l, 5, 0, api.ErrRing)
		for _, none := range nones(t) {
			wantPick(t, none, l, 5, 0, api.ErrNil)
			wantPick(t, none, headers(2, 3, 4), 2, 0, api.ErrNil)
		}
	}
	down := downFlash(t) // its wear can be told, and sector 0 was erased
	wantPick(t, down, headers(0, 1, 2), 1, 2, api.OK)
	wantPick(t, down, headers(0), 0, 0, api.ErrRing)
}

// R2, R3: picking changes nothing.
func TestPickOnly(t *testing.T) {
	f := wornFlash(t, 1, 0, 2, 0, 0, 0, 0, 0)
	wantKept(t, "Pick", f, func() { wantPick(t, f, headers(0, 1, 2), 1, 0, api.OK) })
}
