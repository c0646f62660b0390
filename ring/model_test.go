package ring_test

import (
	"bytes"
	"hash/crc32"
	"slices"
	"testing"

	"lightship/api"
	"lightship/flash"
)

// definedHead is the head of a sector as the chapters of ring and record define it.
func definedHead(number uint32) []byte {
	return definedRecord([]byte{82, byte(number >> 24), byte(number >> 16), byte(number >> 8), byte(number)})
}

// definedRecord is the record of a payload of fewer than 256 bytes.
func definedRecord(payload []byte) []byte {
	n := byte(len(payload))
	r := append([]byte{0, n, 255, 255 - n}, payload...)
	for len(r)%4 != 0 {
		r = append(r, 255)
	}
	sum := crc32.ChecksumIEEE(r)
	return append(r, byte(sum>>24), byte(sum>>16), byte(sum>>8), byte(sum), 0, 0, 0, 0)
}

// definedHeader goes by the chapter's words: the sector begins with the very head of the number that it tells, or with none.
func definedHeader(sector int, b []byte) api.Header {
	if bytes.Equal(b, ones(api.Sector)) {
		return api.Header{Sector: sector, Kind: api.SectorFree}
	}
	number := uint32(b[5])<<24 + uint32(b[6])<<16 + uint32(b[7])<<8 + uint32(b[8])
	if bytes.HasPrefix(b, definedHead(number)) {
		return api.Header{Sector: sector, Kind: api.SectorLive, Number: number}
	}
	return api.Header{Sector: sector, Kind: api.SectorDirty}
}

// numbers are those of which a bit, a byte, or nothing is special.
func numbers() []uint32 {
	l := []uint32{0, 3, 7, 0xfffffffe, 0xffffffff, 0x01020304, 0x52525252, 0x00ff00ff, 0xff00ff00, 0xdeadbeef}
	for bit := range 32 {
		l = append(l, 1<<bit, ^uint32(1<<bit))
	}
	return l
}

func ones(n int) []byte { return bytes.Repeat([]byte{255}, n) }

// dice is a row of numbers that is the same in every run.
type dice uint32

func (d *dice) below(n int) int {
	*d = *d*1664525 + 1013904223
	return int(*d>>8) % n
}

func (d *dice) bytes(n int) []byte {
	b := make([]byte, n)
	for i := range b {
		b[i] = byte(d.below(256))
	}
	return b
}

func newFlash(t *testing.T, sectors int) *flash.Flash {
	t.Helper()
	f, e := flash.New(sectors)
	if e != api.OK {
		t.Fatalf("New(%d): error %d", sectors, e)
	}
	return f
}

// downFlash is a flash whose power has failed.
func downFlash(t *testing.T) *flash.Flash {
	t.Helper()
	f := newFlash(t, 8)
	want(t, "Arm", f.Arm(0, nil), api.OK)
	want(t, "torn Erase", f.Erase(0), api.ErrDown)
	return f
}

// nones are flashes that neither New nor Copy returned.
func nones(t *testing.T) map[string]*flash.Flash {
	byValue := *newFlash(t, 8)
	return map[string]*flash.Flash{"nil": nil, "zero": {}, "by value": &byValue}
}

func contents(t *testing.T, f *flash.Flash) []byte {
	t.Helper()
	b, e := f.Read(0, f.Sectors()*api.Sector)
	want(t, "Read of everything", e, api.OK)
	return b
}

func wears(f *flash.Flash) []int {
	l := make([]int, f.Sectors())
	for sector := range l {
		l[sector] = f.Wear(sector)
	}
	return l
}

// wantKept fails unless a call leaves the bytes and the wear of a flash as they are, and counts for nothing.
func wantKept(t *testing.T, what string, f *flash.Flash, call func()) {
	t.Helper()
	before, worn := contents(t, f), wears(f)
	want(t, "Arm", f.Arm(0, []byte{1, 2, 3}), api.OK)
	call()
	if f.Down() {
		t.Errorf("%s: it counted", what)
	}
	want(t, "Up", f.Up(), api.OK)
	wantBytes(t, what, contents(t, f), before)
	if !slices.Equal(wears(f), worn) {
		t.Errorf("%s: wears %v, want %v", what, wears(f), worn)
	}
}

func want(t *testing.T, what string, got, wanted api.Errno) {
	t.Helper()
	if got != wanted {
		t.Errorf("%s: error %d, want %d", what, got, wanted)
	}
}

func wantBytes(t *testing.T, what string, got, wanted []byte) {
	t.Helper()
	if !bytes.Equal(got, wanted) {
		t.Errorf("%s: %v, want %v", what, got, wanted)
	}
}
