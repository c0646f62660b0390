package record_test

import (
	"bytes"
	"math"
	"slices"
	"testing"

	"lightship/api"
	"lightship/flash"
	"lightship/record"
)

// lengths are payloads' lengths at the edges: of words, of a head's low byte, of what is allowed.
var lengths = []int{0, 1, 2, 3, 4, 5, 6, 7, 8, 9, 41, 235, 236, 254, 255, 256, 257, 511, 512, 1000, 4076, 4077, 4079, 4080}

// numbers returns a row of numbers that look random, and are the same each time.
func numbers(seed uint32) func(below int) int {
	return func(below int) int {
		seed ^= seed << 13
		seed ^= seed >> 17
		seed ^= seed << 5
		return int(seed>>3) % below
	}
}

func someBytes(seed uint32, n int) []byte {
	next := numbers(seed)
	b := make([]byte, n)
	for i := range b {
		b[i] = byte(next(256))
	}
	return b
}

// payloads are those of these lengths, of zeros, of ones, and of others.
func payloads() [][]byte {
	var l [][]byte
	for _, n := range lengths {
		l = append(l, make([]byte, n), ones(n), someBytes(uint32(n+1), n))
	}
	return l
}

func ones(n int) []byte { return bytes.Repeat([]byte{255}, n) }

func join(l ...[]byte) []byte { return slices.Concat(l...) }

func newFlash(t *testing.T, sectors int) *flash.Flash {
	t.Helper()
	f, e := flash.New(sectors)
	if e != api.OK {
		t.Fatalf("New(%d): error %d", sectors, e)
	}
	return f
}

func contents(t *testing.T, f *flash.Flash) []byte {
	t.Helper()
	b, e := f.Read(0, f.Sectors()*api.Sector)
	want(t, "Read of everything", e, api.OK)
	return b
}

func want(t *testing.T, what string, got, wanted api.Errno) {
	t.Helper()
	if got != wanted {
		t.Errorf("%s: error %d, want %d", what, got, wanted)
	}
}

func wantBytes(t *testing.T, what string, got, wanted []byte) {
	t.Helper()
	if !bytes.Equal(got, wanted) {
		t.Errorf("%s: %v, want %v", what, got, wanted)
	}
}

func wantAt(t *testing.T, what string, b []byte, wanted api.Record) {
	t.Helper()
	if got := record.At(b); !same(got, wanted) {
		t.Errorf("At of %s: %v, want %v", what, got, wanted)
	}
}

func wantScan(t *testing.T, what string, b []byte, wanted ...api.Record) {
	t.Helper()
	if got := record.Scan(b); !slices.EqualFunc(got, wanted, same) {
		t.Errorf("Scan of %s: %v, want %v", what, got, wanted)
	}
}

func wantEnd(t *testing.T, what string, b []byte, wanted int) {
	t.Helper()
	if got := record.End(b); got != wanted {
		t.Errorf("End of %s: %d, want %d", what, got, wanted)
	}
}

// nones are flashes that neither New nor Copy returned.
func nones(t *testing.T) map[string]*flash.Flash {
	byValue := *newFlash(t, 8)
	return map[string]*flash.Flash{"nil": nil, "zero": {}, "by value": &byValue}
}

// The chapter's examples.
func TestExamples(t *testing.T) {
	if record.Size(0) != 12 || record.Size(5) != 20 {
		t.Errorf("Size(0): %d, Size(5): %d", record.Size(0), record.Size(5))
	}
	seven := []byte{0, 1, 255, 254, 7, 255, 255, 255, 0x4d, 0xfc, 0x8f, 0x86, 0, 0, 0, 0}
	got, e := record.Bytes([]byte{7})
	want(t, "Bytes", e, api.OK)
	wantBytes(t, "Bytes of 7", got, seven)
	wantAt(t, "7", seven, api.Record{Size: 16, Kind: api.Valid, Payload: []byte{7}})
	wantAt(t, "7 without its commit", join(seven[:12], ones(4)), api.Record{Size: 16, Kind: api.Torn})
	odd := []byte{0, 1, 255, 255}
	wantAt(t, "0 1 255 255", odd, api.Record{Size: 4, Kind: api.Garbage})
	wantAt(t, "bytes 255", ones(20), api.Record{Size: 20, Kind: api.Blank})
	both := join(seven, odd)
	wantScan(t, "both", both, api.Record{Size: 16, Kind: api.Valid, Payload: []byte{7}}, api.Record{At: 16, Size: 4, Kind: api.Garbage})
	wantEnd(t, "both", both, 20)
}

// P4.1: 12 plus n, rounded up.
func TestSize(t *testing.T) {
	for n := range api.MaxRecord + 1 {
		size := record.Size(n)
		if size%4 != 0 || size < 12+n || size >= 12+n+4 {
			t.Errorf("Size(%d): %d", n, size)
		}
	}
	for _, n := range []int{-1, -2, -3, -4, -12, -100, math.MinInt, math.MinInt + 1, 4081, 4082, 4084, 5000, 65535, 65536, math.MaxInt - 12, math.MaxInt} {
		if size := record.Size(n); size != 0 {
			t.Errorf("Size(%d): %d, want 0", n, size)
		}
	}
}

// P4.1: head, body, sum, commit.
func TestBytes(t *testing.T) {
	for _, p := range payloads() {
		got, e := record.Bytes(p)
		want(t, "Bytes", e, api.OK)
		wantBytes(t, "Bytes", got, defined(p))
		if len(got) != record.Size(len(p)) {
			t.Errorf("%d bytes of a payload of %d, want %d", len(got), len(p), record.Size(len(p)))
		}
	}
}

// P4.1: a longer payload has no bytes.
func TestBytesOfALongPayload(t *testing.T) {
	for _, n := range []int{4081, 4084, 65535, 65536, 65537, 70000} {
		b, e := record.Bytes(make([]byte, n))
		want(t, "Bytes", e, api.ErrLong)
		if len(b) != 0 {
			t.Errorf("%d bytes beside an error", len(b))
		}
	}
}

// P4.1, R6: a missing payload is an empty one.
func TestNoPayload(t *testing.T) {
	b, e := record.Bytes(nil)
	want(t, "Bytes", e, api.OK)
	wantBytes(t, "Bytes of nil", b, []byte{0, 0, 255, 255, 0x9f, 0x62, 0xcd, 0xe3, 0, 0, 0, 0})
	f := newFlash(t, 8)
	want(t, "Write of nil", record.Write(f, 0, nil), api.OK)
	wantBytes(t, "what was written", contents(t, f)[:12], b)
}

// R3: neither a payload nor what lies behind it is changed, or kept.
func TestPayloadsStay(t *testing.T) {
	for _, n := range []int{0, 1, 5, 8} {
		all := someBytes(3, 32)
		before := slices.Clone(all)
		b, _ := record.Bytes(all[:n])
		f := newFlash(t, 8)
		want(t, "Write", record.Write(f, 0, all[:n]), api.OK)
		wantBytes(t, "payload", all, before)
		clear(all)
		wantBytes(t, "Bytes, when its payload changed", b, defined(before[:n]))
		again, _ := record.Bytes(before[:n])
		clear(b[:cap(b)])
		wantBytes(t, "payload, when Bytes changed", before, someBytes(3, 32))
		wantBytes(t, "Bytes, when others changed", again, defined(before[:n]))
	}
}

// P4.1: what is written, and where.
func TestWrite(t *testing.T) {
	for _, p := range payloads() {
		f := newFlash(t, 24)
		size := len(defined(p))
		end := 24 * api.Sector
		for _, at := range []int{0, 4, 252, 1000, end - size} {
			want(t, "Erase", eraseAll(f), api.OK)
			want(t, "Write", record.Write(f, at, p), api.OK)
			wantBytes(t, "flash", contents(t, f), join(ones(at), defined(p), ones(end-at-size)))
		}
	}
}

func eraseAll(f *flash.Flash) api.Errno {
	for s := range f.Sectors() {
		if e := f.Erase(s); e != api.OK {
			return e
		}
	}
	return api.OK
}

// P4.1: to write is to program: bits that are cleared stay so.
func TestWriteOverSomething(t *testing.T) {
	f := newFlash(t, 8)
	old, p := someBytes(1, 64), someBytes(2, 40)
	want(t, "Program", f.Program(8, old), api.OK)
	want(t, "Write", record.Write(f, 8, p), api.OK)
	both := slices.Clone(old)
	for i, b := range defined(p) {
		both[i] &= b
	}
	wantBytes(t, "flash", contents(t, f), join(ones(8), both, ones(8*api.Sector-72)))
}

// P4.1: head, body and commit are one program each, in this order; and nothing else counts.
func TestWriteIsThreePrograms(t *testing.T) {
	for _, p := range payloads() {
		whole := defined(p)
		body := len(whole) - 4
		for n, reached := range []int{0, 4, body} {
			f := newFlash(t, 24)
			want(t, "Arm", f.Arm(n, nil), api.OK)
			want(t, "torn Write", record.Write(f, 512, p), api.ErrDown)
			want(t, "Up", f.Up(), api.OK)
			wantBytes(t, "flash", contents(t, f), join(ones(512), whole[:reached], ones(24*api.Sector-512-reached)))
		}
		f := newFlash(t, 24)
		want(t, "Arm", f.Arm(3, nil), api.OK)
		want(t, "Write", record.Write(f, 512, p), api.OK)
		want(t, "torn Program", f.Program(0, make([]byte, 4)), api.ErrDown)
	}
}

// P4.1: each part is programmed at once: a torn one is torn by its own mask, from its own beginning on.
func TestTornParts(t *testing.T) {
	p := []byte("torn here")
	whole := defined(p)
	mask := []byte{15, 240, 170, 0, 255}
	for n, part := range [][2]int{{0, 4}, {4, 20}, {20, 24}} {
		f := newFlash(t, 8)
		want(t, "Arm", f.Arm(n, mask), api.OK)
		want(t, "torn Write", record.Write(f, 0, p), api.ErrDown)
		want(t, "Up", f.Up(), api.OK)
		torn := ones(24)
		copy(torn, whole[:part[0]])
		for i := part[0]; i < min(part[1], part[0]+len(mask)); i++ {
			torn[i] = whole[i] | ^mask[i-part[0]]
		}
		wantBytes(t, "flash", contents(t, f)[:24], torn)
	}
}

// wantUntouched fails unless a Write is refused with this error, and the flash notices nothing.
func wantUntouched(t *testing.T, f *flash.Flash, at int, payload []byte, wanted api.Errno) {
	t.Helper()
	before := contents(t, f)
	want(t, "Arm", f.Arm(0, []byte{255}), api.OK)
	if e := record.Write(f, at, payload); e != wanted {
		t.Errorf("Write of %d bytes at %d: error %d, want %d", len(payload), at, e, wanted)
	}
	if f.Down() {
		t.Errorf("Write of %d bytes at %d: it counted", len(payload), at)
	}
	want(t, "Up", f.Up(), api.OK)
	wantBytes(t, "flash", contents(t, f), before)
}

// P4.1, R2: what is refused changes nothing, and counts for nothing.
func TestWriteRefused(t *testing.T) {
	f := newFlash(t, 8)
	const end = 8 * api.Sector
	for _, n := range []int{4081, 4084, 65536, 70000} {
		wantUntouched(t, f, 0, make([]byte, n), api.ErrLong)
		wantUntouched(t, f, -1, make([]byte, n), api.ErrLong)
	}
	for _, at := range []int{-1, -4, -16, end, end + 1, end + 4, end - 3, end - 1, math.MinInt, math.MaxInt, math.MaxInt - 3, math.MaxInt - 15} {
		wantUntouched(t, f, at, []byte{1}, api.ErrBounds)
	}
	for _, at := range []int{end - 4, end - 8, end - 12} { // its head is there, but not all of it
		wantUntouched(t, f, at, []byte{1}, api.ErrBounds)
	}
	wantUntouched(t, f, 0, make([]byte, end-8), api.ErrBounds)
	wantUntouched(t, f, 4, make([]byte, end-12), api.ErrBounds)
	wantUntouched(t, f, 0, make([]byte, 4080), api.ErrBounds)
	for _, at := range []int{1, 2, 3, 5, 1001, end - 17, end - 6} {
		wantUntouched(t, f, at, []byte{1}, api.ErrAlign)
	}
	want(t, "Write of all of the flash", record.Write(f, 0, make([]byte, end-12)), api.OK)
}

// P4.1: the order of the errors.
func TestErrorsInTheirOrder(t *testing.T) {
	for name, f := range nones(t) {
		want(t, name+", ErrLong ahead of ErrNil", record.Write(f, 0, make([]byte, 4081)), api.ErrLong)
		want(t, name+", ErrNil", record.Write(f, 0, nil), api.ErrNil)
		want(t, name+", ErrNil ahead of ErrBounds", record.Write(f, -4, nil), api.ErrNil)
		want(t, name+", ErrNil ahead of ErrAlign", record.Write(f, 1, nil), api.ErrNil)
	}
	f := newFlash(t, 8)
	want(t, "Arm", f.Arm(0, nil), api.OK)
	want(t, "torn Erase", f.Erase(0), api.ErrDown)
	want(t, "ErrLong ahead of ErrDown", record.Write(f, 0, make([]byte, 4081)), api.ErrLong)
	want(t, "ErrDown", record.Write(f, 0, nil), api.ErrDown)
	want(t, "ErrDown ahead of ErrBounds", record.Write(f, -4, nil), api.ErrDown)
	want(t, "ErrDown ahead of ErrAlign", record.Write(f, 1, nil), api.ErrDown)
}
