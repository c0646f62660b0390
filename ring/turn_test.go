package ring_test

import (
	"slices"
	"testing"

	"lightship/api"
	"lightship/flash"
	"lightship/ring"
)

// masks are those of which an adversary might choose: each bit alone, each bit left out, ones up to somewhere, and others.
func masks(n int) [][]byte {
	l := [][]byte{nil, ones(n)}
	for bit := range 8 * n {
		alone, but := make([]byte, n), ones(n)
		alone[bit/8] = 1 << (bit % 8)
		but[bit/8] ^= alone[bit/8]
		l = append(l, alone, but)
	}
	for i := range n {
		l = append(l, ones(i), append(make([]byte, i), ones(n-i)...))
	}
	d := dice(n)
	for range 40 {
		l = append(l, d.bytes(n))
	}
	return l
}

// P5.4: a head that is torn at any of its programs, by any mask, on a free sector: it is not live, or live with that number; and the others are as they were.
func TestTornHeads(t *testing.T) {
	for _, number := range []uint32{0, 1, 8, 0xffffffff, 0x12345678, 0x80000000} {
		for n, part := range []int{4, 12, 4} {
			for _, mask := range masks(part) {
				f := newFlash(t, 8)
				want(t, "Open", ring.Open(f, 2, 7), api.OK)
				want(t, "Arm", f.Arm(n, mask), api.OK)
				want(t, "torn Open", ring.Open(f, 3, number), api.ErrDown)
				want(t, "Up", f.Up(), api.OK)
				whole := n == 2 && slices.Equal(mask, ones(part))
				wantTorn(t, f, number, whole, n == 0 && mask == nil)
				wantAgain(t, f)
			}
		}
	}
}

// wantTorn fails unless sector 3 is live with that number, or else not live: free, as it was, if nothing of it was cleared.
func wantTorn(t *testing.T, f *flash.Flash, number uint32, whole, nothing bool) {
	t.Helper()
	l, e := ring.Look(f, 2, 3)
	want(t, "Look", e, api.OK)
	h := l[1]
	if whole && h != (api.Header{Sector: 3, Kind: api.SectorLive, Number: number}) || !whole && (h.Kind == api.SectorLive || h.Number != 0) || nothing && h.Kind != api.SectorFree {
		t.Errorf("torn head of %d: %v", number, h)
	}
	if l[0] != (api.Header{Sector: 2, Kind: api.SectorLive, Number: 7}) || l[2] != (api.Header{Sector: 4}) {
		t.Errorf("beside a torn head: %v", l)
	}
	if newest, ok := ring.Newest(l); !ok || newest.Sector != 2 && !(whole && number > 7 && newest == h) {
		t.Errorf("Newest beside a torn head of %d: %v", number, newest)
	}
}

// wantAgain fails unless the sector of a torn head can be cleared and opened.
func wantAgain(t *testing.T, f *flash.Flash) {
	t.Helper()
	want(t, "Clear", ring.Clear(f, 3), api.OK)
	want(t, "Open", ring.Open(f, 3, 1234), api.OK)
	wantLook(t, "a sector opened again", f, 2, api.Header{Sector: 2, Kind: 1, Number: 7}, api.Header{Sector: 3, Kind: 1, Number: 1234}, api.Header{Sector: 4})
}

// P5.4: a sector that is live with that number stays so, wherever its head is torn when it is opened again.
func TestTornHeadsAgain(t *testing.T) {
	for n := range 3 {
		for _, mask := range masks(4) {
			f := newFlash(t, 8)
			want(t, "Open", ring.Open(f, 3, 0x10203040), api.OK)
			before := contents(t, f)
			want(t, "Arm", f.Arm(n, mask), api.OK)
			want(t, "torn Open", ring.Open(f, 3, 0x10203040), api.ErrDown)
			want(t, "Up", f.Up(), api.OK)
			wantBytes(t, "a head torn again", contents(t, f), before)
		}
	}
}

// turn opens the next sector of a ring with a number, as the chapter has it.
func turn(t *testing.T, f *flash.Flash, first, count int, number uint32) int {
	t.Helper()
	l, e := ring.Look(f, first, count)
	want(t, "Look", e, api.OK)
	but := -1
	if newest, ok := ring.Newest(l); ok {
		but = newest.Sector
	}
	sector, e := ring.Pick(f, l, but)
	want(t, "Pick", e, api.OK)
	if sector == but {
		t.Errorf("turn to %d: %d is the newest one itself", number, sector)
	}
	want(t, "Clear", ring.Clear(f, sector), api.OK)
	want(t, "Open", ring.Open(f, sector, number), api.OK)
	return sector
}

// P5.4: sectors that are opened in turn: the newest one is the last one, and they are worn evenly.
func TestTurns(t *testing.T) {
	for _, r := range [][2]int{{0, 3}, {2, 3}, {5, 3}, {1, 4}, {3, 5}, {0, 8}} {
		f := newFlash(t, 8)
		outside := contents(t, f)
		for number := range uint32(200) {
			sector := turn(t, f, r[0], r[1], number+1)
			l, _ := ring.Look(f, r[0], r[1])
			if newest, ok := ring.Newest(l); !ok || newest != (api.Header{Sector: sector, Kind: api.SectorLive, Number: number + 1}) {
				t.Fatalf("ring %v, number %d: the newest one is %v", r, number+1, newest)
			}
			wantEven(t, f, r)
		}
		end := (r[0] + r[1]) * api.Sector
		after := contents(t, f)
		wantBytes(t, "ahead of the ring", after[:r[0]*api.Sector], outside[:r[0]*api.Sector])
		wantBytes(t, "behind the ring", after[end:], outside[end:])
	}
}

func wantEven(t *testing.T, f *flash.Flash, r [2]int) {
	t.Helper()
	worn := wears(f)[r[0] : r[0]+r[1]]
	if slices.Max(worn)-slices.Min(worn) > 2 {
		t.Fatalf("ring %v: wears %v", r, worn)
	}
}

// P5.4: the same from sectors on that are not free, and with numbers up to the greatest one.
func TestTurnsOverSomething(t *testing.T) {
	for seed := range 30 {
		d := dice(seed)
		f := newFlash(t, 8)
		for sector := range 8 {
			want(t, "Program", f.Program(sector*api.Sector, d.bytes(4*d.below(20))), api.OK)
		}
		r := [2]int{d.below(3), 3 + d.below(4)}
		for left := range uint32(100) {
			number := 0xffffffff - 99 + left
			sector := turn(t, f, r[0], r[1], number)
			l, _ := ring.Look(f, r[0], r[1])
			if newest, ok := ring.Newest(l); !ok || newest != (api.Header{Sector: sector, Kind: api.SectorLive, Number: number}) {
				t.Fatalf("ring %v, number %d: the newest one is %v", r, number, newest)
			}
			wantEven(t, f, r)
		}
	}
}

// The chapter's examples.
func TestExamples(t *testing.T) {
	f := newFlash(t, 8)
	wantLook(t, "a new flash", f, 2, headers(2, 3, 4)...)
	want(t, "Open", ring.Open(f, 3, 7), api.OK)
	three := api.Header{Sector: 3, Kind: api.SectorLive, Number: 7}
	wantLook(t, "one that is live", f, 2, api.Header{Sector: 2}, three, api.Header{Sector: 4})
	l, _ := ring.Look(f, 2, 3)
	wantNewest(t, l, three, true)
	wantPick(t, f, l, 3, 2, api.OK)
	want(t, "Program", f.Program(4*api.Sector, []byte{1, 2, 3, 4}), api.OK)
	wantLook(t, "one that is dirty", f, 2, api.Header{Sector: 2}, three, api.Header{Sector: 4, Kind: api.SectorDirty})
	want(t, "Clear", ring.Clear(f, 4), api.OK)
	wantLook(t, "one that was cleared", f, 2, api.Header{Sector: 2}, three, api.Header{Sector: 4})
	if n := f.Wear(4); n != 1 {
		t.Errorf("wear of 4: %d", n)
	}
	wantPick(t, f, l, 2, 3, api.OK)
	for _, r := range [][2]int{{6, 3}, {2, 2}} {
		if l, e := ring.Look(f, r[0], r[1]); l != nil || e != api.ErrRing {
			t.Errorf("Look(%d, %d): %v, error %d", r[0], r[1], l, e)
		}
	}
}
