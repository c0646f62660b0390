package dict_test

import (
	"math"
	"slices"
	"testing"

	"lightship/api"
	"lightship/dict"
)

// P15.1: Load returns the words of the region alone, whatever is around it.
func TestLoad(t *testing.T) {
	l := three()
	b := rows(l...)
	for _, r := range regions {
		f := laid(t, r.at, b)
		wantKept(t, "Load", f, func() { wantLoad(t, "words", f, r, l, len(b)) })
		wantLoad(t, "no bytes", f, region{r.at, 0}, nil, 0)
		around := make([]byte, 2048)
		copy(around[r.at:], ones(r.size))
		copy(around[r.at:], b)
		wantLoad(t, "words, and 0 around", laid(t, 0, around), r, l, len(b))
	}
}

// P15.1: a region that begins or ends within a record has it only in part.
func TestLoadOfEachRegion(t *testing.T) {
	l := three()
	b := make([]byte, 2048)
	copy(b, ones(2048))
	copy(b[1000:], rows(l...))
	f := laid(t, 0, b)
	for at := 900; at <= 1120; at += 4 {
		for size := 0; size <= 240; size += 4 {
			wanted, end := definedWords(b[at : at+size])
			wantLoad(t, "part", f, region{at, size}, wanted, end)
		}
	}
	for end := range 3 {
		n := len(rows(l[:end+1]...))
		wantLoad(t, "up to a record's end", f, region{1000, n}, l[:end+1], n)
	}
}

// P15.1: the whole of the greatest flash, and its last bytes.
func TestLoadOfTheGreatestFlash(t *testing.T) {
	f := newFlash(t, 256)
	x := named("x", 101)
	want(t, "Program", f.Program(65536-24, of(x)), api.OK)
	wantLoad(t, "the end", f, region{65536 - 24, 24}, []api.Word{x}, 24)
	wantLoad(t, "all", f, region{0, 65536}, []api.Word{x}, 65536)
	wantLoad(t, "nothing at the end", f, region{65536, 0}, nil, 0)
	wantNoLoad(t, "behind the end", f, region{65536, 4}, api.ErrBounds)
	wantNoLoad(t, "beyond the end", f, region{65540, 0}, api.ErrBounds)
}

// wrongRegions have an address, or a size, that is below 0, or no multiple of 4.
var wrongRegions = []region{
	{-1, 4}, {-4, 4}, {-256, 512}, {math.MinInt, 0}, {math.MinInt, math.MinInt}, {0, -1}, {0, -4}, {512, -256}, {0, math.MinInt},
	{1, 4}, {2, 4}, {3, 4}, {0, 1}, {0, 2}, {0, 3}, {2, 2}, {1, 3}, {6, 0}, {math.MaxInt, 0}, {0, math.MaxInt}, {4094, 4}, {2046, 2}, {math.MaxInt, math.MaxInt},
}

// beyond have multiples of 4, but are not there as a whole; the end of some would wrap round.
var beyond = []region{{0, 2052}, {2048, 4}, {2052, 0}, {1792, 260}, {4, 2048}, {math.MaxInt - 3, 0}, {0, math.MaxInt - 3}, {math.MaxInt - 3, 8}, {math.MaxInt - 3, math.MaxInt - 3}, {4, math.MaxInt - 3}, {1 << 32, 4}, {0, 1 << 32}}

// P15.1, P15.2: ErrArg, and then the errors of the flash, in this order; nothing is done.
func TestErrorsOfRegions(t *testing.T) {
	x := named("x", 101)
	f := laid(t, 0, rows(three()...))
	for _, r := range wrongRegions {
		wantKept(t, "a wrong region", f, func() {
			wantNoLoad(t, "a wrong region", f, r, api.ErrArg)
			wantNoAppend(t, "a wrong region", f, r, x, api.ErrArg)
			wantNoAppend(t, "a wrong region, and a wrong word", f, r, api.Word{}, api.ErrArg)
		})
		wantNoLoad(t, "a wrong region without power", downFlash(t), r, api.ErrArg)
		wantNoAppend(t, "a wrong region without power", downFlash(t), r, x, api.ErrArg)
		for what, g := range nones(t) {
			wantNoLoad(t, what, g, r, api.ErrArg)
			wantNoAppend(t, what, g, r, x, api.ErrArg)
		}
	}
	for _, r := range beyond {
		wantKept(t, "a region that is not there", f, func() {
			wantNoLoad(t, "a region that is not there", f, r, api.ErrBounds)
			wantNoAppend(t, "a region that is not there", f, r, x, api.ErrBounds)
			wantNoAppend(t, "a region that is not there, and a wrong word", f, r, api.Word{}, api.ErrBounds)
		})
	}
	for _, r := range append(slices.Clone(beyond), regions...) {
		wantNoLoad(t, "without power", downFlash(t), r, api.ErrDown)
		wantNoAppend(t, "without power", downFlash(t), r, x, api.ErrDown)
		wantNoAppend(t, "without power, and a wrong word", downFlash(t), r, api.Word{}, api.ErrDown)
		for what, g := range nones(t) {
			wantNoLoad(t, what, g, r, api.ErrNil)
			wantNoAppend(t, what, g, r, x, api.ErrNil)
			wantNoAppend(t, what+", and a wrong word", g, r, api.Word{}, api.ErrNil)
		}
	}
}

// R3: results are new, and share nothing with the flash, nor with each other.
func TestLoadedWordsAreNew(t *testing.T) {
	f := laid(t, 512, rows(three()...))
	one, _, _ := dict.Load(f, 512, 512)
	for i := range one {
		clear(one[i].Code)
	}
	clear(one)
	wantLoad(t, "words that were changed", f, region{512, 512}, three(), len(rows(three()...)))
	copied := f.Copy()
	two, _, _ := dict.Load(f, 512, 512)
	want(t, "Erase", f.Erase(2), api.OK)
	if !same(two, three()) {
		t.Errorf("words were erased with their sector: %v", two)
	}
	wantLoad(t, "a copy", copied, region{512, 512}, three(), len(rows(three()...)))
	wantLoad(t, "erased", f, region{512, 512}, nil, 0)
}
