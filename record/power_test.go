package record_test

import (
	"bytes"
	"slices"
	"testing"

	"lightship/api"
	"lightship/flash"
	"lightship/record"
)

// masks are those of which an adversary might choose: each bit alone, each bit left out, ones up to somewhere, and others.
func masks(n int) [][]byte {
	l := [][]byte{nil, ones(n)}
	for bit := range 8 * n {
		alone := make([]byte, n)
		alone[bit/8] = 1 << (bit % 8)
		but := ones(n)
		but[bit/8] ^= alone[bit/8]
		l = append(l, alone, but)
	}
	for i := range n {
		l = append(l, ones(i), join(make([]byte, i), ones(n-i)))
	}
	for i := range 40 {
		l = append(l, someBytes(uint32(i+1), n))
	}
	return l
}

// partsOf are how many bytes each of the three programs has.
func partsOf(payload []byte) [3]int {
	return [3]int{4, len(defined(payload)) - 8, 4}
}

// P4.3: what is written where nothing was is read, one behind the other.
func TestWhatIsWrittenIsRead(t *testing.T) {
	f := newFlash(t, 256)
	for _, p := range payloads() {
		b := contents(t, f)
		at := record.End(b)
		if at+record.Size(len(p)) > len(b) {
			break
		}
		want(t, "Write", record.Write(f, at, p), api.OK)
		b = contents(t, f)
		wantAt(t, "what was written", b[at:], api.Record{Kind: api.Valid, Size: record.Size(len(p)), Payload: p})
		l := record.Scan(b)
		if last := l[len(l)-1]; last.At != at || last.Kind != api.Valid || !bytes.Equal(last.Payload, p) {
			t.Errorf("the last one: %v", last)
		}
		wantEnd(t, "all", b, at+record.Size(len(p)))
	}
}

// P4.3: a write that is torn at any of its programs, by any mask.
func TestTornWrites(t *testing.T) {
	for _, p := range [][]byte{nil, {0}, {7}, {1, 2, 3}, []byte("four"), []byte("fives"), ones(9), make([]byte, 16)} {
		for n, part := range partsOf(p) {
			for _, mask := range masks(part) {
				tornWrite(t, p, n, mask)
			}
		}
	}
}

func tornWrite(t *testing.T, p []byte, n int, mask []byte) {
	t.Helper()
	f := newFlash(t, 8)
	before := []byte("before")
	want(t, "Write", record.Write(f, 0, before), api.OK)
	at := record.Size(len(before))
	want(t, "Arm", f.Arm(n, mask), api.OK)
	want(t, "torn Write", record.Write(f, at, p), api.ErrDown)
	want(t, "Up", f.Up(), api.OK)
	b := contents(t, f)
	got := record.At(b[at:])
	if !allowed(got, p, n, len(b)-at) {
		t.Errorf("%v torn at %d by %v: %v", p, n, mask, got)
	}
	wantBytes(t, "what was there", b[:at], defined(before))
	if whole := n == 2 && bytes.Equal(mask, ones(4)); whole != (got.Kind == api.Valid) {
		t.Errorf("%v torn at %d by %v: %v", p, n, mask, got)
	}
	writtenBehind(t, f, p, n, at, got)
}

// allowed tells what may be there: at the first program nothing or a word of garbage, unless all of the head was done; then a torn record, or the record itself.
func allowed(got api.Record, p []byte, n, rest int) bool {
	size := record.Size(len(p))
	switch got.Kind {
	case api.Blank:
		return n == 0 && got.Size == rest && got.Payload == nil
	case api.Garbage:
		return n == 0 && got.Size == 4 && got.Payload == nil
	case api.Torn:
		return got.Size == size && got.Payload == nil
	}
	return n == 2 && got.Kind == api.Valid && got.Size == size && bytes.Equal(got.Payload, p)
}

// writtenBehind: the next record comes behind what is there, and is read; and, if the head was done, it is where it would be behind the record.
func writtenBehind(t *testing.T, f *flash.Flash, p []byte, n, at int, torn api.Record) {
	t.Helper()
	next := record.End(contents(t, f))
	if n > 0 && next != at+record.Size(len(p)) {
		t.Errorf("torn at %d: the next one at %d, want %d", n, next, at+record.Size(len(p)))
	}
	if torn.Kind == api.Garbage && next != at+4 || torn.Kind == api.Blank && next != at {
		t.Errorf("behind %v: the next one at %d", torn, next)
	}
	behind := []byte("behind it")
	want(t, "Write behind it", record.Write(f, next, behind), api.OK)
	l := record.Scan(contents(t, f))
	last := api.Record{At: next, Size: record.Size(len(behind)), Kind: api.Valid, Payload: behind}
	if len(l) == 0 || !same(l[len(l)-1], last) {
		t.Errorf("behind %v: %v, want %v", torn, l, last)
	}
	wanted := [][]byte{[]byte("before"), behind}
	if torn.Kind == api.Valid {
		wanted = slices.Insert(wanted, 1, p)
	}
	wantPayloads(t, f, wanted)
}

// P4.3: writes that are torn again and again leave the records that were finished, in their order.
func TestTornAgainAndAgain(t *testing.T) {
	next := numbers(29)
	for range 60 {
		f := newFlash(t, 8)
		var done [][]byte
		for {
			p := someBytes(uint32(1+next(1<<20)), next(40))
			at := record.End(contents(t, f))
			if at+record.Size(len(p)) > 8*api.Sector {
				break
			}
			if next(3) == 0 {
				want(t, "Arm", f.Arm(next(3), someBytes(uint32(1+next(1<<20)), 60)), api.OK)
			}
			e := record.Write(f, at, p)
			want(t, "Up", f.Up(), api.OK)
			if e == api.OK || record.At(contents(t, f)[at:]).Kind == api.Valid {
				done = append(done, p)
			}
		}
		wantPayloads(t, f, done)
	}
}

func wantPayloads(t *testing.T, f *flash.Flash, wanted [][]byte) {
	t.Helper()
	var got [][]byte
	for _, r := range record.Scan(contents(t, f)) {
		if r.Kind == api.Valid {
			got = append(got, r.Payload)
		}
	}
	if !slices.EqualFunc(got, wanted, bytes.Equal) {
		t.Errorf("records of %v, want %v", got, wanted)
	}
}
