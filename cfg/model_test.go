package cfg_test

import (
	"bytes"
	"hash/crc32"
	"maps"
	"slices"
	"testing"

	"lightship/api"
	"lightship/cfg"
	"lightship/flash"
)

// model is a flash with a ring as plain bytes, and what the chapter's words make of it.
type model struct {
	b    []byte
	wear []int
	r    api.Ring
}

func modelOf(t *testing.T, f *flash.Flash, r api.Ring) *model {
	t.Helper()
	return &model{contents(t, f), wears(f), r}
}

// definedRecord is the record of a payload of fewer than 256 bytes.
func definedRecord(payload []byte) []byte {
	n := byte(len(payload))
	r := append([]byte{0, n, 255, 255 - n}, payload...)
	for len(r)%4 != 0 {
		r = append(r, 255)
	}
	sum := crc32.ChecksumIEEE(r)
	return append(r, byte(sum>>24), byte(sum>>16), byte(sum>>8), byte(sum), 0, 0, 0, 0)
}

func definedHead(number uint32) []byte {
	return definedRecord([]byte{82, byte(number >> 24), byte(number >> 16), byte(number >> 8), byte(number)})
}

func setOf(key, val string) []byte { return []byte("\x01" + string(rune(len(key))) + key + val) }

func deletedOf(key string) []byte { return []byte("\x02" + string(rune(len(key))) + key) }

// roundedUp is the weight of that many bytes of a key and a value.
func roundedUp(n int) int { return (12 + 2 + n + 3) / 4 * 4 }

func (m *model) sector(i int) []byte { return m.b[i*256 : (i+1)*256] }

// inUse returns the sector with the greatest number in a whole head.
func (m *model) inUse() (sector int, number uint32, ok bool) {
	for i := m.r.First; i < m.r.First+m.r.Count; i++ {
		b := m.sector(i)
		n := uint32(b[5])<<24 | uint32(b[6])<<16 | uint32(b[7])<<8 | uint32(b[8])
		if bytes.HasPrefix(b, definedHead(n)) && (!ok || n > number) {
			sector, number, ok = i, n, true
		}
	}
	return sector, number, ok
}

// behind gives the payloads behind the head to see, and returns where nothing follows.
func behind(b []byte, see func(payload []byte)) int {
	at := 20
	for at < len(b) && !bytes.Equal(b[at:], ones(len(b)-at)) {
		n := int(b[at+1])
		if b[at] != 0 || b[at+2] != 255 || b[at+3] != byte(255-n) || at+roundedUp(n-2) > len(b) {
			at += 4
			continue
		}
		payload := b[at+4 : at+4+n]
		if bytes.HasPrefix(b[at:], definedRecord(payload)) {
			see(payload)
		}
		at += roundedUp(n - 2)
	}
	return at
}

func (m *model) entries() map[string]string {
	l := map[string]string{}
	sector, _, ok := m.inUse()
	if !ok {
		return l
	}
	behind(m.sector(sector), func(p []byte) {
		for n := 1; n <= 16 && 2+n <= len(p); n++ {
			key, val := string(p[2:2+n]), string(p[2+n:])
			if len(val) <= 64 && bytes.Equal(p, setOf(key, val)) {
				l[key] = val
			}
			if bytes.Equal(p, deletedOf(key)) {
				delete(l, key)
			}
		}
	})
	return l
}

func (m *model) program(at int, b []byte) {
	for i, x := range b {
		m.b[at+i] &= x
	}
}

func (m *model) clear(sector int) {
	if !bytes.Equal(m.sector(sector), ones(256)) {
		copy(m.sector(sector), ones(256))
		m.wear[sector]++
	}
}

func (m *model) make() {
	if _, _, ok := m.inUse(); !ok {
		m.clear(m.r.First)
		m.program(m.r.First*256, definedHead(1))
	}
}

func (m *model) set(key, val string) api.Errno {
	l := m.entries()
	if len(key) < 1 || len(key) > 16 || len(val) > 64 {
		return api.ErrArg
	}
	if old, ok := l[key]; ok && old == val {
		return api.OK
	}
	l[key] = val
	sum := 0
	for k, v := range l {
		sum += roundedUp(len(k) + len(v))
	}
	if sum > 236 {
		return api.ErrFull
	}
	m.change(setOf(key, val), l)
	return api.OK
}

func (m *model) delete(key string) api.Errno {
	l := m.entries()
	if len(key) < 1 || len(key) > 16 {
		return api.ErrArg
	}
	if _, ok := l[key]; !ok {
		return api.ErrKey
	}
	delete(l, key)
	m.change(deletedOf(key), l)
	return api.OK
}

func (m *model) change(payload []byte, l map[string]string) {
	sector, number, _ := m.inUse()
	at := behind(m.sector(sector), func([]byte) {})
	if r := definedRecord(payload); at+len(r) <= 256 {
		m.program(sector*256+at, r)
		return
	}
	next := -1
	for i := m.r.First; i < m.r.First+m.r.Count; i++ {
		if i != sector && (next < 0 || m.wear[i] < m.wear[next]) {
			next = i
		}
	}
	m.clear(next)
	at = next*256 + 20
	for _, k := range slices.Sorted(maps.Keys(l)) {
		r := definedRecord(setOf(k, l[k]))
		m.program(at, r)
		at += len(r)
	}
	m.program(next*256, definedHead(number+1))
}

// wantModel fails unless the flash, its wear and its entries are those of the model.
func wantModel(t *testing.T, what string, f *flash.Flash, m *model) {
	t.Helper()
	wantBytes(t, what, contents(t, f), m.b)
	if !slices.Equal(wears(f), m.wear) {
		t.Errorf("%s: wears %v, want %v", what, wears(f), m.wear)
	}
	wantEntries(t, what, f, m.r, m.entries())
}

// wantEntries fails unless All and Get tell these entries.
func wantEntries(t *testing.T, what string, f *flash.Flash, r api.Ring, wanted map[string]string) {
	t.Helper()
	l, e := cfg.All(f, r)
	want(t, what+": All", e, api.OK)
	var keys []string
	for _, x := range l {
		keys = append(keys, string(x.Key))
		if val, ok := wanted[string(x.Key)]; !ok || val != string(x.Val) {
			t.Errorf("%s: %q has %q, want %q, %v", what, x.Key, x.Val, val, ok)
		}
		wantGet(t, what, f, r, string(x.Key), wanted[string(x.Key)], true)
	}
	if !slices.Equal(keys, slices.Sorted(maps.Keys(wanted))) {
		t.Errorf("%s: the keys are %q, want those of %q", what, keys, wanted)
	}
}

func wantGet(t *testing.T, what string, f *flash.Flash, r api.Ring, key, val string, there bool) {
	t.Helper()
	b, ok, e := cfg.Get(f, r, []byte(key))
	if string(b) != val || ok != there || e != api.OK {
		t.Errorf("%s: Get of %q: %q, %v, error %d, want %q, %v", what, key, b, ok, e, val, there)
	}
}

func ones(n int) []byte { return bytes.Repeat([]byte{255}, n) }

// dice is a row of numbers that is the same in every run.
type dice uint32

func (d *dice) below(n int) int {
	*d = *d*1664525 + 1013904223
	return int(*d>>8) % n
}

func (d *dice) bytes(n int) []byte {
	b := make([]byte, n)
	for i := range b {
		b[i] = byte(d.below(256))
	}
	return b
}

func newFlash(t *testing.T, sectors int) *flash.Flash {
	t.Helper()
	f, e := flash.New(sectors)
	if e != api.OK {
		t.Fatalf("New(%d): error %d", sectors, e)
	}
	return f
}

var middle = api.Ring{First: 2, Count: 4}

// made is a flash of 8 sectors with a ring in use, and its model.
func made(t *testing.T, r api.Ring) (*flash.Flash, *model) {
	t.Helper()
	f := newFlash(t, 8)
	m := modelOf(t, f, r)
	want(t, "Make", cfg.Make(f, r), api.OK)
	m.make()
	wantModel(t, "Make", f, m)
	return f, m
}

// setBoth sets a key of the flash and of its model, which do the same.
func setBoth(t *testing.T, f *flash.Flash, m *model, key, val string, wanted api.Errno) {
	t.Helper()
	want(t, "Set of "+key, cfg.Set(f, m.r, []byte(key), []byte(val)), wanted)
	want(t, "Set in the model", m.set(key, val), wanted)
	wantModel(t, "Set of "+key, f, m)
}

func deleteBoth(t *testing.T, f *flash.Flash, m *model, key string, wanted api.Errno) {
	t.Helper()
	want(t, "Delete of "+key, cfg.Delete(f, m.r, []byte(key)), wanted)
	want(t, "Delete in the model", m.delete(key), wanted)
	wantModel(t, "Delete of "+key, f, m)
}

// downFlash is a flash without a ring in use, whose power has failed.
func downFlash(t *testing.T) *flash.Flash {
	t.Helper()
	f := newFlash(t, 8)
	want(t, "Arm", f.Arm(0, nil), api.OK)
	want(t, "torn Erase", f.Erase(0), api.ErrDown)
	return f
}

// nones are flashes that neither New nor Copy returned.
func nones(t *testing.T) map[string]*flash.Flash {
	byValue := *newFlash(t, 8)
	return map[string]*flash.Flash{"nil": nil, "zero": {}, "by value": &byValue}
}

func contents(t *testing.T, f *flash.Flash) []byte {
	t.Helper()
	b, e := f.Read(0, f.Sectors()*api.Sector)
	want(t, "Read of everything", e, api.OK)
	return b
}

func wears(f *flash.Flash) []int {
	l := make([]int, f.Sectors())
	for sector := range l {
		l[sector] = f.Wear(sector)
	}
	return l
}

// wantKept fails unless a call leaves the bytes and the wear of a flash as they are, and counts for nothing.
func wantKept(t *testing.T, what string, f *flash.Flash, call func()) {
	t.Helper()
	before, worn := contents(t, f), wears(f)
	want(t, "Arm", f.Arm(0, []byte{1, 2, 3}), api.OK)
	call()
	if f.Down() {
		t.Errorf("%s: it counted", what)
	}
	want(t, "Up", f.Up(), api.OK)
	wantBytes(t, what, contents(t, f), before)
	if !slices.Equal(wears(f), worn) {
		t.Errorf("%s: wears %v, want %v", what, wears(f), worn)
	}
}

func want(t *testing.T, what string, got, wanted api.Errno) {
	t.Helper()
	if got != wanted {
		t.Errorf("%s: error %d, want %d", what, got, wanted)
	}
}

func wantBytes(t *testing.T, what string, got, wanted []byte) {
	t.Helper()
	if !bytes.Equal(got, wanted) {
		t.Errorf("%s: %v, want %v", what, got, wanted)
	}
}
