package cfg_test

import (
	"bytes"
	"maps"
	"slices"
	"strings"
	"testing"

	"lightship/api"
	"lightship/cfg"
	"lightship/flash"
)

// masks are those of which an adversary might choose: each bit of the first words alone, or left out, ones up to somewhere, and others. None of them is the head of a sector.
func masks(n int) [][]byte {
	l := [][]byte{nil, ones(n), {255, 255, 255}}
	for bit := range 64 {
		alone, but := make([]byte, n), ones(n)
		alone[bit/8] = 1 << (bit % 8)
		but[bit/8] ^= alone[bit/8]
		l = append(l, alone, but)
	}
	for i := 1; i < n; i += 1 + i/20*7 {
		l = append(l, ones(i), append(make([]byte, i), ones(n-i)...))
	}
	d := dice(n)
	for range 30 {
		l = append(l, d.bytes(n))
	}
	return l
}

// change is a change of a flash, and of its model.
type change struct {
	flash func(*flash.Flash) api.Errno
	model func(*model) api.Errno
}

func setting(r api.Ring, key, val string) change {
	return change{func(f *flash.Flash) api.Errno { return cfg.Set(f, r, []byte(key), []byte(val)) }, func(m *model) api.Errno { return m.set(key, val) }}
}

func deleting(r api.Ring, key string) change {
	return change{func(f *flash.Flash) api.Errno { return cfg.Delete(f, r, []byte(key)) }, func(m *model) api.Errno { return m.delete(key) }}
}

// tornEverywhere tears a change at each of its programs and erases, and returns how many these are.
func tornEverywhere(t *testing.T, f *flash.Flash, r api.Ring, c change, mask []byte) int {
	t.Helper()
	before := modelOf(t, f, r)
	after := &model{slices.Clone(before.b), slices.Clone(before.wear), r}
	want(t, "change in the model", c.model(after), api.OK)
	for n := 0; ; n++ {
		g := f.Copy()
		want(t, "Arm", g.Arm(n, mask), api.OK)
		e := c.flash(g)
		down := g.Down()
		want(t, "Up", g.Up(), api.OK)
		if !down {
			want(t, "change", e, api.OK)
			wantModel(t, "change", g, after)
			return n
		}
		want(t, "torn change", e, api.ErrDown)
		wantEither(t, g, r, before, after)
		wantDoneAgain(t, g, r, c, after)
	}
}

// wantEither fails unless the entries are as they were, or as they are to be.
func wantEither(t *testing.T, f *flash.Flash, r api.Ring, before, after *model) {
	t.Helper()
	got := modelOf(t, f, r).entries()
	if !maps.Equal(got, before.entries()) && !maps.Equal(got, after.entries()) {
		t.Errorf("entries %q, want %q or %q", got, before.entries(), after.entries())
	}
	wantEntries(t, "torn", f, r, got)
}

// wantDoneAgain fails unless the change can be done now, if it was not.
func wantDoneAgain(t *testing.T, f *flash.Flash, r api.Ring, c change, after *model) {
	t.Helper()
	m := modelOf(t, f, r)
	e := c.model(m)
	want(t, "change again", c.flash(f), e)
	wantModel(t, "change again", f, m)
	wantEntries(t, "change again", f, r, after.entries())
}

// P6.4: changes that are appended, torn at each of the three programs of their record.
func TestTornAppends(t *testing.T) {
	f, m := made(t, middle)
	setBoth(t, f, m, "b", "22", api.OK)
	setBoth(t, f, m, "a", "1", api.OK)
	for _, c := range []change{setting(middle, "c", "3"), setting(middle, "a", "9"), setting(middle, "a", ""), setting(middle, "b", strings.Repeat("x", 64)), deleting(middle, "a"), deleting(middle, "b")} {
		for _, mask := range masks(256) {
			if n := tornEverywhere(t, f, middle, c, mask); n != 3 {
				t.Errorf("%d operations of a change that is appended", n)
			}
		}
	}
}

// P6.4: turns that are torn at the erase, at the records, or at the head, which comes last.
func TestTornTurns(t *testing.T) {
	r := api.Ring{First: 1, Count: 3}
	f, m := made(t, r)
	for i := range 9 {
		for _, x := range filling {
			setBoth(t, f, m, x[0], strings.Repeat(string(rune('0'+i)), len(x[1])), api.OK)
		}
	}
	for _, x := range []struct {
		c       change
		records int
	}{{setting(r, "b", "short"), 3}, {setting(r, "a", strings.Repeat("z", 64)), 3}, {deleting(r, "a"), 2}, {deleting(r, "c"), 2}} {
		for _, mask := range masks(256) {
			if n := tornEverywhere(t, f, r, x.c, mask); n != 1+3*x.records+3 {
				t.Errorf("%d operations of a turn with %d records", n, x.records)
			}
		}
	}
}

// P6.4: a turn that is torn before the head is whole leaves the old sector in use; with all of the head the new one is.
func TestTornTurnKeepsTheOldSector(t *testing.T) {
	f, m := made(t, middle)
	for _, x := range filling {
		setBoth(t, f, m, x[0], x[1], api.OK)
	}
	for n := range 12 {
		for _, mask := range [][]byte{nil, ones(256)} {
			g := f.Copy()
			want(t, "Arm", g.Arm(n, mask), api.OK)
			want(t, "torn Set", cfg.Set(g, middle, []byte("a"), []byte("new")), api.ErrDown)
			want(t, "Up", g.Up(), api.OK)
			old, number, ok := modelOf(t, g, middle).inUse()
			if whole := n == 11 && mask != nil; !ok || whole && (old != 3 || number != 2) || !whole && (old != 2 || number != 1) {
				t.Errorf("torn at %d: sector %d, number %d is in use", n, old, number)
			}
			if n < 9 && !bytes.Equal(contents(t, g)[3*api.Sector:][:20], ones(20)) {
				t.Errorf("torn at %d: the head is ahead of the entries", n)
			}
		}
	}
}

// P6.4: heads of records that are torn behind the last one take a word, or nothing.
func TestTornHeadsOfRecords(t *testing.T) {
	for _, x := range []struct {
		mask []byte
		at   int
	}{{nil, 36}, {[]byte{255}, 40}, {[]byte{0, 255}, 40}, {[]byte{255, 255, 255}, 40}, {[]byte{0, 0, 0, 1}, 36}, {[]byte{0, 0, 0, 4}, 40}, {ones(4), 52}} {
		f, m := made(t, middle)
		setBoth(t, f, m, "a", "1", api.OK)
		want(t, "Arm", f.Arm(0, x.mask), api.OK)
		want(t, "torn Set", cfg.Set(f, middle, []byte("a"), []byte("2")), api.ErrDown)
		want(t, "Up", f.Up(), api.OK)
		wantEntries(t, "a torn head", f, middle, map[string]string{"a": "1"})
		want(t, "Set again", cfg.Set(f, middle, []byte("a"), []byte("2")), api.OK)
		wantBytes(t, "what was appended", contents(t, f)[2*api.Sector+x.at:][:16], definedRecord(setOf("a", "2")))
		wantEntries(t, "set again", f, middle, map[string]string{"a": "2"})
	}
}

// P6.4: the power fails again and again: entries are always as they were, or as they are to be, and the wear is even, but for the failures.
func TestTornAgainAndAgain(t *testing.T) {
	for seed := range 60 {
		d := dice(seed)
		r := rings[d.below(len(rings))]
		f, _ := made(t, r)
		failures := 0
		for range 200 {
			before := modelOf(t, f, r)
			after := modelOf(t, f, r)
			key, val := string(rune('a'+d.below(5))), string(d.bytes(d.below(40)))
			c := setting(r, key, val)
			if d.below(4) == 0 {
				c = deleting(r, key)
			}
			if d.below(2) == 0 {
				want(t, "Arm", f.Arm(d.below(14), d.bytes(d.below(300))), api.OK)
			}
			e := c.model(after)
			if got := c.flash(f); f.Down() {
				want(t, "torn change", got, api.ErrDown)
				failures++
			} else {
				want(t, "change", got, e)
			}
			want(t, "Up", f.Up(), api.OK)
			wantEither(t, f, r, before, after)
			wantEven(t, f, r, failures)
		}
	}
}

func wantEven(t *testing.T, f *flash.Flash, r api.Ring, failures int) {
	t.Helper()
	worn := wears(f)[r.First : r.First+r.Count]
	if slices.Max(worn)-slices.Min(worn) > 2+failures {
		t.Errorf("ring %v: wears %v with %d failures", r, worn, failures)
	}
}

// P6.4: sectors are worn evenly, none outside the ring, and only by turns.
func TestEvenWear(t *testing.T) {
	for _, r := range rings {
		f, m := made(t, r)
		for i := range 1500 {
			e := m.set("k", string(rune('0'+i%10)))
			want(t, "Set", cfg.Set(f, r, []byte("k"), []byte{byte('0' + i%10)}), e)
			wantEven(t, f, r, 0)
		}
		wantModel(t, "many sets", f, m)
		sum := 0
		for _, n := range wears(f) {
			sum += n
		}
		if turns := 1499 / 14; sum < turns-r.Count || sum > turns { // 14 records of 16 bytes in a sector, but for the first one 236/16
			t.Errorf("ring %v: %d erases of %d turns", r, sum, turns)
		}
	}
}

// P6.4: as long as the current entries have room no Set is refused, however often they were set.
func TestRoomIsNeverLost(t *testing.T) {
	f, m := made(t, middle)
	for i := range 100 {
		for _, x := range filling {
			setBoth(t, f, m, x[0], strings.Repeat(string(rune('0'+i%10)), len(x[1])), api.OK)
		}
		if i%9 == 4 {
			deleteBoth(t, f, m, filling[i%3][0], api.OK)
		}
	}
}

// Without power nothing is told but ErrDown, and nothing is done; then all is as it was.
func TestWithoutPower(t *testing.T) {
	f, m := made(t, middle)
	setBoth(t, f, m, "a", "1", api.OK)
	want(t, "Arm", f.Arm(0, nil), api.OK)
	want(t, "torn Set", cfg.Set(f, middle, []byte("a"), []byte("2")), api.ErrDown)
	wantError(t, "without power", f, middle, api.ErrDown)
	want(t, "Make", cfg.Make(f, middle), api.ErrDown)
	want(t, "Up", f.Up(), api.OK)
	wantModel(t, "power again", f, m)
}
