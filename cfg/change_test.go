package cfg_test

import (
	"slices"
	"strings"
	"testing"

	"lightship/api"
	"lightship/cfg"
	"lightship/flash"
	"lightship/record"
	"lightship/ring"
)

// P6.3: a change is one record behind the last one, and nothing else.
func TestSetAppends(t *testing.T) {
	f, m := made(t, middle)
	wanted := contents(t, f)
	at := 2*api.Sector + 20
	for _, x := range [][2]string{{"a", "1"}, {"\x00", "\xff\xff"}, {strings.Repeat("k", 16), strings.Repeat("v", 64)}, {"a", ""}, {"\xff", "abc"}} {
		setBoth(t, f, m, x[0], x[1], api.OK)
		b := definedRecord(setOf(x[0], x[1]))
		copy(wanted[at:], b)
		at += len(b)
		wantBytes(t, "Set", contents(t, f), wanted)
	}
	deleteBoth(t, f, m, "a", api.OK)
	copy(wanted[at:], definedRecord(deletedOf("a")))
	wantBytes(t, "Delete", contents(t, f), wanted)
	if n := slices.Max(wears(f)); n != 0 {
		t.Errorf("appending wears: %d", n)
	}
}

// P6.3: a key that is set to what it has: nothing is done, not even where there is no room.
func TestSetToWhatItHas(t *testing.T) {
	same := func(f *flash.Flash, key, val string) {
		t.Helper()
		wantKept(t, "Set of the same", f, func() { want(t, "Set of the same", cfg.Set(f, middle, []byte(key), []byte(val)), api.OK) })
	}
	f, m := made(t, middle)
	setBoth(t, f, m, "a", "1", api.OK)
	same(f, "a", "1")
	setBoth(t, f, m, "b", "", api.OK)
	wantKept(t, "Set of the same", f, func() { want(t, "Set of none", cfg.Set(f, middle, []byte("b"), nil), api.OK) })
	same(f, "a", "1")
	setBoth(t, f, m, "a", "2", api.OK)
	setBoth(t, f, m, "a", "1", api.OK)
	same(f, "a", "1")
	deleteBoth(t, f, m, "a", api.OK)
	setBoth(t, f, m, "a", "1", api.OK) // what was deleted isn't there any more: it is written again
	same(f, "a", "1")
	f, m = made(t, middle)
	for _, x := range filling {
		setBoth(t, f, m, x[0], x[1], api.OK)
	}
	for _, x := range filling {
		same(f, x[0], x[1])
	}
}

// filling are entries whose weights are just Room: 80, 80 and 76.
var filling = [][2]string{{"a", strings.Repeat("1", 64)}, {"c", strings.Repeat("3", 63)}, {"b", strings.Repeat("2", 60)}}

// P6.3: entries that just have room, and such as just do not; the value that the key had does not count.
func TestFull(t *testing.T) {
	f, m := made(t, middle)
	full := func(key, val string) {
		t.Helper()
		wantKept(t, "Set without room", f, func() { want(t, "Set without room", cfg.Set(f, middle, []byte(key), []byte(val)), api.ErrFull) })
	}
	setBoth(t, f, m, filling[0][0], filling[0][1], api.OK)
	setBoth(t, f, m, filling[1][0], filling[1][1], api.OK)
	full("b", strings.Repeat("2", 62))
	full("b", strings.Repeat("2", 64))
	full("bb", strings.Repeat("2", 61))
	setBoth(t, f, m, "b", strings.Repeat("2", 61), api.OK)
	wantEntries(t, "entries that just have room", f, middle, map[string]string{"a": filling[0][1], "c": filling[1][1], "b": strings.Repeat("2", 61)})
	full("d", "")
	full("b", strings.Repeat("2", 62))
	full("\x00", "")
	setBoth(t, f, m, "a", strings.Repeat("9", 64), api.OK)
	setBoth(t, f, m, "b", strings.Repeat("8", 61), api.OK)
	setBoth(t, f, m, "b", strings.Repeat("8", 57), api.OK)
	full("d", "")
	setBoth(t, f, m, "b", strings.Repeat("8", 49), api.OK) // 64: so 12 are free, and no entry has as few
	full("d", "")
	setBoth(t, f, m, "b", strings.Repeat("8", 45), api.OK)
	full("d", "12")
	setBoth(t, f, m, "d", "1", api.OK)
	full("e", "")
	deleteBoth(t, f, m, "a", api.OK)
	setBoth(t, f, m, "e", strings.Repeat("7", 64), api.OK)
	full("a", "")
}

// P6.3, P6.4: the errors of the arguments come before ErrFull and ErrKey, and nothing is done.
func TestErrorsOfArguments(t *testing.T) {
	f, m := made(t, middle)
	for range 2 {
		wantKept(t, "arguments", f, func() {
			for _, n := range []int{0, 17, 18, 255, 256, 257, 272, 4080, 70000} {
				for _, v := range []int{0, 1, 64, 65, 300} {
					want(t, "Set", cfg.Set(f, middle, make([]byte, n), make([]byte, v)), api.ErrArg)
				}
				want(t, "Delete", cfg.Delete(f, middle, make([]byte, n)), api.ErrArg)
			}
			for _, v := range []int{65, 66, 128, 256, 320, 4080, 70000} {
				want(t, "Set", cfg.Set(f, middle, []byte("k"), make([]byte, v)), api.ErrArg)
				want(t, "Set", cfg.Set(f, middle, []byte("a"), make([]byte, v)), api.ErrArg)
			}
			want(t, "Set", cfg.Set(f, middle, nil, nil), api.ErrArg)
			want(t, "Delete", cfg.Delete(f, middle, nil), api.ErrArg)
			for _, key := range []string{"k", "\x00", "aa", strings.Repeat("k", 16)} {
				want(t, "Delete", cfg.Delete(f, middle, []byte(key)), api.ErrKey)
			}
		})
		for _, x := range filling {
			setBoth(t, f, m, x[0], x[1], api.OK)
		}
	}
	deleteBoth(t, f, m, "a", api.OK)
	deleteBoth(t, f, m, "a", api.ErrKey)
}

// P6.3: what just fits behind the last record is appended; what is one word longer turns the ring.
func TestTheLastWordsOfASector(t *testing.T) {
	for left := 0; left <= 32; left += 4 {
		for size := 16; size <= 32; size += 4 {
			f, m := made(t, middle)
			gap := ones(236 - left)
			gap[len(gap)-1] = 0
			want(t, "Program", f.Program(2*api.Sector+20, gap), api.OK)
			m.program(2*api.Sector+20, gap)
			setBoth(t, f, m, "k", strings.Repeat("v", size-15), api.OK)
			l, e := ring.Look(f, middle.First, middle.Count)
			want(t, "Look", e, api.OK)
			if h, _ := ring.Newest(l); (h.Sector == 2) != (size <= left) || (h.Number == 1) != (size <= left) {
				t.Errorf("%d bytes where %d are left: %v", size, left, h)
			}
		}
	}
}

// P6.3: a Delete without room turns the ring, without the entry, even if it was the last one.
func TestDeleteTurns(t *testing.T) {
	f, m := made(t, middle)
	for _, x := range filling {
		setBoth(t, f, m, x[0], x[1], api.OK)
	}
	deleteBoth(t, f, m, "b", api.OK)
	wantEntries(t, "Delete without room", f, middle, map[string]string{"a": filling[0][1], "c": filling[1][1]})
	for i := range 9 {
		setBoth(t, f, m, "b", strings.Repeat(string(rune('0'+i)), 60), api.OK)
		deleteBoth(t, f, m, "b", api.OK)
	}
	f = laid(t, 4, 7, definedRecord(setOf("a", "1")), ones(208), []byte{0, 0, 0, 0})
	want(t, "Program", f.Program(2*api.Sector+8, make([]byte, 4)), api.OK)
	m = modelOf(t, f, middle)
	deleteBoth(t, f, m, "a", api.OK)
	wanted := append(definedHead(8), ones(236)...)
	wantBytes(t, "the sector that was opened", contents(t, f)[2*api.Sector:][:api.Sector], wanted)
	if n := f.Wear(2); n != 1 {
		t.Errorf("a dirty sector was turned to: wear %d", n)
	}
}

// P6.3: entries go to the next sector by rising keys, one behind the other, and its number is the next one; the old sector stays.
func TestTurn(t *testing.T) {
	rows := [][]byte{definedRecord(setOf("d", "4")), definedRecord(setOf("b", "2")), definedRecord(setOf("\xff", "")), definedRecord(setOf("c", "3")), definedRecord(deletedOf("b")), definedRecord(setOf("c", "33")), ones(116), {0, 0, 0, 0}}
	f := laid(t, 3, 0x01ff, rows...)
	old := contents(t, f)[3*api.Sector:][:api.Sector]
	m := modelOf(t, f, middle)
	setBoth(t, f, m, "a", "11111", api.OK)
	wanted := slices.Concat(definedHead(0x0200), definedRecord(setOf("a", "11111")), definedRecord(setOf("c", "33")), definedRecord(setOf("d", "4")), definedRecord(setOf("\xff", "")))
	b := contents(t, f)
	wantBytes(t, "the sector that was opened", b[2*api.Sector:][:api.Sector], append(wanted, ones(api.Sector-len(wanted))...))
	wantBytes(t, "the old sector", b[3*api.Sector:][:api.Sector], old)
	wantEntries(t, "a turn", f, middle, map[string]string{"a": "11111", "c": "33", "d": "4", "\xff": ""})
	f = laid(t, 3, 0x01ff, rows...)
	m = modelOf(t, f, middle)
	setBoth(t, f, m, "c", "44444", api.OK)
	wantEntries(t, "a turn with a key that had a value", f, middle, map[string]string{"c": "44444", "d": "4", "\xff": ""})
}

// P6.3: the next sector is the one of the least wear, of several the first one, but never the one in use.
func TestTurnByWear(t *testing.T) {
	for _, x := range []struct {
		worn       [4]int
		used, next int
	}{{[4]int{0, 0, 0, 0}, 2, 3}, {[4]int{0, 0, 0, 0}, 5, 2}, {[4]int{2, 1, 1, 1}, 2, 3}, {[4]int{1, 1, 0, 1}, 2, 4}, {[4]int{1, 1, 0, 1}, 4, 2}, {[4]int{3, 2, 0, 1}, 4, 5}, {[4]int{0, 9, 9, 8}, 2, 5}} {
		f := newFlash(t, 8)
		for i, n := range x.worn {
			for range n {
				want(t, "Erase", f.Erase(2+i), api.OK)
			}
		}
		want(t, "Open", ring.Open(f, x.used, 9), api.OK)
		want(t, "Program", f.Program(x.used*api.Sector+252, make([]byte, 4)), api.OK)
		m := modelOf(t, f, middle)
		setBoth(t, f, m, "a", "1", api.OK)
		l, e := ring.Look(f, 2, 4)
		want(t, "Look", e, api.OK)
		if h, ok := ring.Newest(l); !ok || h.Sector != x.next || h.Number != 10 || f.Wear(x.next) != x.worn[x.next-2] {
			t.Errorf("turn by %v from %d: to %v, wear %d", x.worn, x.used, h, f.Wear(x.next))
		}
	}
}

// P6.3: torn records, garbage and other records take bytes: the next change comes behind them.
func TestAppendBehindAnything(t *testing.T) {
	whole := definedRecord(setOf("a", "9"))
	for _, b := range [][]byte{{0, 4, 255, 255}, {255, 255, 255, 254}, whole[:4], whole[:12], definedRecord(nil), definedRecord([]byte("other")), append(ones(100), 1, 2, 3, 4)} {
		f := laid(t, 3, 5, definedRecord(setOf("b", "2")), b)
		m := modelOf(t, f, middle)
		at := 3*api.Sector + record.End(contents(t, f)[3*api.Sector:][:api.Sector])
		setBoth(t, f, m, "c", "3", api.OK)
		wantBytes(t, "what was appended", contents(t, f)[at:][:16], definedRecord(setOf("c", "3")))
		deleteBoth(t, f, m, "b", api.OK)
	}
}

// R3: arguments are neither changed nor kept, nor is their spare capacity.
func TestArgumentsStay(t *testing.T) {
	f, m := made(t, middle)
	for i := range 40 {
		both := []byte("key" + "val-" + string(rune('0'+i%10)) + "rest")
		before := string(both)
		want(t, "Set", cfg.Set(f, middle, both[:3], both[3:8]), api.OK)
		want(t, "Set", m.set(before[:3], before[3:8]), api.OK)
		want(t, "Delete of none", cfg.Delete(f, middle, both[:4]), api.ErrKey)
		if i%7 == 0 {
			want(t, "Delete", cfg.Delete(f, middle, both[:3]), api.OK)
			want(t, "Delete", m.delete(before[:3]), api.OK)
		}
		if string(both) != before {
			t.Fatalf("arguments were changed: %q", both)
		}
		clear(both)
		wantModel(t, "arguments that are changed later", f, m)
	}
}

// P6.3: rows of changes of all kinds, byte by byte as the chapter has it, in rings of several sizes.
func TestChanges(t *testing.T) {
	for seed := range 40 {
		d := dice(seed)
		f, m := made(t, rings[d.below(len(rings))])
		for range 150 {
			anyChange(t, &d, f, m)
		}
	}
}

// anyChange makes a change of one of a few keys, or one that is refused.
func anyChange(t *testing.T, d *dice, f *flash.Flash, m *model) {
	t.Helper()
	key := string(rune('a' + d.below(6)))
	switch d.below(12) {
	case 0:
		key = strings.Repeat(key, d.below(19))
	case 1:
		key = strings.Repeat(key, 16)
	}
	val := string(d.bytes(d.below(20)))
	if d.below(4) == 0 {
		val = string(d.bytes(d.below(67)))
	}
	if d.below(3) == 0 {
		e := m.delete(key)
		want(t, "Delete", cfg.Delete(f, m.r, []byte(key)), e)
	} else {
		e := m.set(key, val)
		want(t, "Set", cfg.Set(f, m.r, []byte(key), []byte(val)), e)
	}
	wantModel(t, "a change", f, m)
}

// The chapter's examples.
func TestExamples(t *testing.T) {
	r := api.Ring{First: 1, Count: 3}
	f := newFlash(t, 8)
	if l, e := cfg.All(f, r); l != nil || e != api.ErrRing {
		t.Errorf("All of a new flash: %v, error %d", l, e)
	}
	want(t, "Make", cfg.Make(f, r), api.OK)
	want(t, "Set", cfg.Set(f, r, []byte("a"), []byte("1")), api.OK)
	wantBytes(t, "what was appended at 276", contents(t, f)[276:292], definedRecord([]byte{1, 1, 'a', '1'}))
	wantGet(t, "set", f, r, "a", "1", true)
	val := ""
	for i := range 3 {
		val = strings.Repeat(string(rune('x'+i)), 64)
		want(t, "Set", cfg.Set(f, r, []byte("a"), []byte(val)), api.OK)
	}
	l, e := ring.Look(f, 1, 3)
	want(t, "Look", e, api.OK)
	if h, ok := ring.Newest(l); !ok || h != (api.Header{Sector: 2, Kind: api.SectorLive, Number: 2}) {
		t.Errorf("in use: %v", h)
	}
	wantEntries(t, "a turn", f, r, map[string]string{"a": val})
	want(t, "Set", cfg.Set(f, r, []byte("c"), []byte(val)), api.OK)
	want(t, "Set", cfg.Set(f, r, []byte("d"), []byte(val)), api.ErrFull)
	want(t, "Delete", cfg.Delete(f, r, []byte("b")), api.ErrKey)
}
