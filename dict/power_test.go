package dict_test

import (
	"bytes"
	"slices"
	"testing"

	"lightship/api"
	"lightship/dict"
	"lightship/flash"
)

// masks are those of which an adversary might choose: each bit of the first words alone, or left out, ones up to somewhere, and others.
func masks(n int) [][]byte {
	l := [][]byte{nil, ones(n), {255, 255, 255}}
	for bit := range 96 {
		alone, but := make([]byte, n), ones(n)
		alone[bit/8] = 1 << (bit % 8)
		but[bit/8] ^= alone[bit/8]
		l = append(l, alone, but)
	}
	for i := 1; i < n; i++ {
		l = append(l, ones(i), append(make([]byte, i), ones(n-i)...))
	}
	d := dice(n)
	for range 40 {
		l = append(l, d.bytes(n))
	}
	return l
}

// tornAt appends a word to a copy of a flash, and tears the program at n; the power is on again.
func tornAt(t *testing.T, f *flash.Flash, r region, w api.Word, n int, mask []byte) *flash.Flash {
	t.Helper()
	g := f.Copy()
	want(t, "Arm", g.Arm(n, mask), api.OK)
	wantNoAppend(t, "torn", g, r, w, api.ErrDown)
	if !g.Down() {
		t.Errorf("program %d was not torn", n)
	}
	want(t, "Up", g.Up(), api.OK)
	return g
}

// wantEither fails unless the dictionary is as it was, or has the word as its last one; and the next one is appended behind that, and behind everything that stands there.
func wantEither(t *testing.T, g *flash.Flash, r region, before []api.Word, w api.Word) bool {
	t.Helper()
	l, end, e := dict.Load(g, r.at, r.size)
	want(t, "Load", e, api.OK)
	with := append(slices.Clone(before), w)
	if !same(l, before) && !same(l, with) {
		t.Errorf("torn: %s, want %s or %s", told(l), told(before), told(with))
	}
	stands := contents(t, g)
	if behind := stands[r.at+end : r.at+r.size]; !bytes.Equal(behind, ones(len(behind))) {
		t.Errorf("torn: something stands behind the end %d", end)
	}
	next := named("next", 102, 7, 101)
	wantAppend(t, "next", g, r, next, append(slices.Clone(l), next))
	copy(stands[r.at+end:], of(next))
	wantBytes(t, "next", contents(t, g), stands)
	wantLoad(t, "next", g, r, append(slices.Clone(l), next), end+len(of(next)))
	return same(l, with)
}

// P15.3: each of the three programs is torn, whatever is cleared.
func TestTorn(t *testing.T) {
	for _, r := range regions {
		for n, before := range [][]api.Word{nil, three()[:1], three()} {
			f := laid(t, r.at, rows(before...))
			w := append(three(), named("!", 256, 259, 139, 2, 3, 101))[[]int{0, 1, 3}[n]]
			for _, mask := range masks(len(of(w))) {
				for i := range 3 {
					there := wantEither(t, tornAt(t, f, r, w, i, mask), r, before, w)
					if whole := i == 2 && bytes.HasPrefix(mask, ones(4)); there != whole {
						t.Errorf("torn at %d by %v: there %v", i, mask, there)
					}
				}
			}
			want(t, "Arm", f.Arm(3, nil), api.OK)
			wantAppend(t, "three programs", f, r, w, append(slices.Clone(before), w))
			want(t, "Erase", f.Erase(0), api.ErrDown)
		}
	}
}

// P15.3: what was torn takes its room, so that the next word may have none; what was there stays.
func TestTornTakesRoom(t *testing.T) {
	x := named("x", 101)
	for _, c := range []struct {
		i    int
		mask []byte
		end  int
	}{{0, nil, 24}, {0, []byte{255}, 28}, {0, ones(4), 48}, {1, nil, 48}, {1, ones(16), 48}, {2, nil, 48}, {2, ones(3), 48}} {
		f := laid(t, 512, of(x))
		g := tornAt(t, f, region{512, 72}, x, c.i, c.mask)
		wantLoad(t, "torn", g, region{512, 72}, []api.Word{x}, c.end)
		wantKept(t, "no room", g, func() { wantNoAppend(t, "no room", g, region{512, c.end + 20}, x, api.ErrDict) })
		wantAppend(t, "room", g, region{512, c.end + 24}, x, []api.Word{x, x})
	}
}

// P15.3: a word of which the commit was done as a whole is there, though Append told of the failure.
func TestTornAfterAll(t *testing.T) {
	f := newFlash(t, 8)
	x := named("x", 101)
	g := tornAt(t, f, region{0, 256}, x, 2, ones(4))
	wantLoad(t, "torn after all", g, region{0, 256}, []api.Word{x}, 24)
	wantAppend(t, "a call of it", g, region{0, 256}, named("y", 256, 101), []api.Word{x, named("y", 256, 101)})
}

// P15.3: the power fails again and again: what was appended is there, in order, and what was torn is there as a whole, or not at all.
func TestTornAgainAndAgain(t *testing.T) {
	for seed := range 80 {
		d := dice(seed)
		r := regions[d.below(len(regions))]
		f := newFlash(t, 8)
		var l []api.Word
		failures := 0
		for range 60 {
			w := api.Word{Name: string(rune('a' + d.below(26))), Code: []uint32{uint32(256 + d.below(len(l)+1)), 102, uint32(d.below(1000)), 101}}
			if d.below(2) == 0 {
				want(t, "Arm", f.Arm(d.below(5), d.bytes(d.below(40))), api.OK)
			}
			got, e := dict.Append(f, r.at, r.size, w)
			down := f.Down()
			want(t, "Up", f.Up(), api.OK)
			if e == api.ErrDict && !down {
				break
			}
			with := append(slices.Clone(l), w)
			now, _, _ := dict.Load(f, r.at, r.size)
			if down && (e != api.ErrDown || len(got) != 0) || !down && (e != api.OK || !same(got, with) || !same(now, with)) || !same(now, l) && !same(now, with) {
				t.Fatalf("seed %d: error %d, %s, now %s, before %s", seed, e, told(got), told(now), told(l))
			}
			if down {
				failures++
			}
			l = now
		}
		if failures == 0 && len(l) > 10 {
			t.Errorf("seed %d: the power never failed", seed)
		}
	}
}
