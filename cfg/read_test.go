package cfg_test

import (
	"fmt"
	"slices"
	"strings"
	"testing"

	"lightship/api"
	"lightship/cfg"
	"lightship/flash"
	"lightship/record"
	"lightship/ring"
)

// laid is a flash whose middle ring has a sector in use with these bytes behind its head.
func laid(t *testing.T, sector int, number uint32, b ...[]byte) *flash.Flash {
	t.Helper()
	f := newFlash(t, 8)
	want(t, "Open", ring.Open(f, sector, number), api.OK)
	want(t, "Program", f.Program(sector*api.Sector+20, slices.Concat(b...)), api.OK)
	return f
}

// P6.2: entries come by rising keys, byte by byte, in whatever order they were set.
func TestAllByKeys(t *testing.T) {
	keys := []string{"\x00", "\x00\x00", "\x00a", "A", "a", "a\x00", "aa", "ab", "b", "\x7f", "\x80", "\xc3\xa4", "\xff", "\xff\xff"}
	for seed := range 20 {
		d := dice(seed)
		f, m := made(t, middle)
		for range 12 {
			key := keys[d.below(len(keys))]
			setBoth(t, f, m, key, string(d.bytes(d.below(4))), m.expected(key))
		}
	}
}

// expected returns ErrFull if not even a value of three bytes would have room beside the others.
func (m *model) expected(key string) api.Errno {
	c := &model{slices.Clone(m.b), slices.Clone(m.wear), m.r}
	return c.set(key, "123")
}

// P6.2: a key has the value that was set last, and one that has none is told so.
func TestGet(t *testing.T) {
	f, m := made(t, middle)
	for _, key := range []string{"", "a", "aa", "\x00", strings.Repeat("k", 16), strings.Repeat("k", 17), strings.Repeat("k", 300)} {
		wantGet(t, "nothing was set", f, middle, key, "", false)
	}
	setBoth(t, f, m, "aa", "first", api.OK)
	setBoth(t, f, m, "aa", "second", api.OK)
	setBoth(t, f, m, strings.Repeat("k", 16), "", api.OK)
	wantGet(t, "set twice", f, middle, "aa", "second", true)
	wantGet(t, "a value of no bytes", f, middle, strings.Repeat("k", 16), "", true)
	for _, key := range []string{"", "a", "aaa", "AA", "aa\x00", "b", strings.Repeat("k", 15), strings.Repeat("k", 17), strings.Repeat("k", 272), "\x02aa", "first", "second"} {
		wantGet(t, "keys that are alike", f, middle, key, "", false)
	}
	deleteBoth(t, f, m, "aa", api.OK)
	wantGet(t, "deleted", f, middle, "aa", "", false)
	setBoth(t, f, m, "aa", "third", api.OK)
	wantGet(t, "set again", f, middle, "aa", "third", true)
}

// P6.2: whole records whose payloads are no changes are ignored, and those behind them count.
func TestRecordsThatAreIgnored(t *testing.T) {
	seventeen := strings.Repeat("k", 17)
	for _, p := range []string{
		"", "\x01", "\x02", "\x00", "a", "\x01\x00", "\x02\x00", "\x01\x00a", "\x02\x00a", "\x01\x01", "\x02\x01", "\x01\x02a", "\x02\x02a", "\x01\x05a123",
		"\x00\x01a9", "\x03\x01a9", "\x03\x01a", "\xff\x01a9", "\x81\x01a9", "\x82\x01a", "\x01\x11" + seventeen + "9", "\x02\x11" + seventeen, "\x01\x10" + seventeen[:15], "\x02\x10" + seventeen[:15],
		"\x02\x01a9", "\x02\x01a\x00", "\x02\x01a\xff", "\x01\x01a" + strings.Repeat("9", 65), "\x01\x01a" + strings.Repeat("9", 100), "\x01\xffa", "\x02\xffa", "\x01\x81a9", "R\x00\x00\x00\x63", "\x01\x10" + seventeen[:16] + strings.Repeat("9", 65),
	} {
		f := laid(t, 3, 5, definedRecord(setOf("a", "1")), definedRecord([]byte(p)), definedRecord(setOf("b", "2")))
		wantEntries(t, fmt.Sprintf("%q between changes", p), f, middle, map[string]string{"a": "1", "b": "2"})
		f = laid(t, 3, 5, definedRecord([]byte(p)))
		wantEntries(t, fmt.Sprintf("%q alone", p), f, middle, nil)
		want(t, "Delete", cfg.Delete(f, middle, []byte("a")), api.ErrKey)
		want(t, "Set", cfg.Set(f, middle, []byte("c"), []byte("3")), api.OK)
		wantEntries(t, fmt.Sprintf("%q ahead of a change", p), f, middle, map[string]string{"c": "3"})
	}
}

// P6.2: the longest and the shortest changes count, whatever bytes they have.
func TestRecordsThatCount(t *testing.T) {
	long := strings.Repeat("\xff", 16)
	f := laid(t, 3, 5, definedRecord(setOf(long, strings.Repeat("\xff", 64))), definedRecord(setOf("\x00", "")), definedRecord(setOf("\x01", "\x01\x01a")))
	wantEntries(t, "changes", f, middle, map[string]string{long: strings.Repeat("\xff", 64), "\x00": "", "\x01": "\x01\x01a"})
	f = laid(t, 3, 5, definedRecord(setOf(long, "1")), definedRecord(deletedOf(long)), definedRecord(deletedOf("\x01")), definedRecord(setOf("\x01", "2")))
	wantEntries(t, "changes and deleted keys", f, middle, map[string]string{"\x01": "2"})
}

// P6.2: records that are torn, and garbage, are ignored.
func TestWhatIsNoRecordIsIgnored(t *testing.T) {
	whole := definedRecord(setOf("a", "9"))
	wrong := slices.Clone(whole)
	wrong[7] ^= 1
	for _, b := range [][]byte{
		append(slices.Clone(whole[:12]), 255, 255, 255, 255), append(slices.Clone(whole[:12]), 0, 0, 0, 1), append(slices.Clone(whole[:4]), append(ones(8), 0, 0, 0, 0)...),
		wrong, {0, 4, 255, 255}, {255, 4, 255, 251}, {0, 0, 0, 0}, {1, 1, 'a', '9'}, append([]byte{255, 255, 255, 255}, whole[4:]...), {255, 255, 255, 255},
	} {
		f := laid(t, 3, 5, definedRecord(setOf("a", "1")), b, definedRecord(setOf("b", "2")))
		wantEntries(t, fmt.Sprint(b, " between changes"), f, middle, map[string]string{"a": "1", "b": "2"})
	}
	tail := append(ones(api.Sector-20-12), whole[:12]...)
	wantEntries(t, "a record over the edge", laid(t, 3, 5, tail), middle, nil)
}

// P6.2: the sector in use is the one with the greatest number; what others have does not count.
func TestEntriesOfTheNewestSector(t *testing.T) {
	for newest := 2; newest <= 5; newest++ {
		f := newFlash(t, 8)
		for sector := 1; sector <= 6; sector++ {
			number := uint32(sector)
			if sector == newest {
				number = 0x80000001
			} else if sector == 1 || sector == 6 {
				number = 0xffffffff
			}
			want(t, "Open", ring.Open(f, sector, number), api.OK)
			want(t, "Write", record.Write(f, sector*api.Sector+20, setOf("s", fmt.Sprint(sector))), api.OK)
			want(t, "Write", record.Write(f, sector*api.Sector+40, setOf(fmt.Sprint(sector), "")), api.OK)
		}
		wantEntries(t, "the newest sector", f, middle, map[string]string{"s": fmt.Sprint(newest), fmt.Sprint(newest): ""})
	}
	f := laid(t, 5, 0, definedRecord(setOf("a", "1")))
	want(t, "Program", f.Program(2*api.Sector+20, definedRecord(setOf("a", "2"))), api.OK)
	want(t, "Program", f.Program(3*api.Sector, definedHead(7)[:16]), api.OK)
	want(t, "Program", f.Program(3*api.Sector+20, definedRecord(setOf("a", "3"))), api.OK)
	wantEntries(t, "a sector with the number 0", f, middle, map[string]string{"a": "1"})
}

// R2 to R4: reading changes nothing, and what it returns is in memory of its own.
func TestReadingOnly(t *testing.T) {
	f, m := made(t, middle)
	setBoth(t, f, m, "a", "12345", api.OK)
	setBoth(t, f, m, "bcd", "", api.OK)
	setBoth(t, f, m, "e", "6789", api.OK)
	key := []byte("a----")
	wantKept(t, "reading", f, func() {
		l, e := cfg.All(f, middle)
		want(t, "All", e, api.OK)
		for i, x := range l {
			for _, b := range [][]byte{x.Key, x.Val} {
				clear(b[len(b):cap(b)])
			}
			if k, v := string(x.Key), string(x.Val); m.entries()[k] != v {
				t.Errorf("entry %d shares memory: %q, %q", i, k, v)
			}
		}
		for _, x := range l {
			clear(x.Key[:cap(x.Key)])
			clear(x.Val[:cap(x.Val)])
		}
		clear(l[:cap(l)])
		val, _, _ := cfg.Get(f, middle, key[:1])
		clear(val[:cap(val)])
		wantEntries(t, "once more", f, middle, m.entries())
	})
	if string(key) != "a----" {
		t.Errorf("the key was changed: %q", key)
	}
}
