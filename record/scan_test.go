package record_test

import (
	"bytes"
	"slices"
	"testing"

	"lightship/api"
	"lightship/record"
)

// wantAsDefined holds At, Scan and End of bytes against the chapter's Terms.
func wantAsDefined(t *testing.T, what string, b []byte) {
	t.Helper()
	before := slices.Clone(b)
	wantAt(t, what, b, definedAt(b))
	wantScan(t, what, b, definedScan(b)...)
	wantEnd(t, what, b, definedEnd(b))
	wantBytes(t, what+" afterwards", b, before)
}

// P4.2: nothing is all bytes 255, or none.
func TestNothing(t *testing.T) {
	for _, n := range []int{0, 1, 2, 3, 4, 5, 8, 12, 100, 5888} {
		wantAt(t, "nothing", ones(n), api.Record{Kind: api.Blank, Size: n})
		wantScan(t, "nothing", ones(n))
		wantEnd(t, "nothing", ones(n), 0)
	}
	wantAt(t, "nil", nil, api.Record{Kind: api.Blank})
	wantScan(t, "nil", nil)
	wantEnd(t, "nil", nil, 0)
}

// P4.2: it is only nothing if nothing follows up to the end.
func TestNothingButTheLastByte(t *testing.T) {
	for _, n := range []int{1, 2, 3, 4, 5, 7, 8, 9, 300} {
		b := ones(n)
		b[n-1] = 254
		wantAt(t, "one bit that is 0", b, api.Record{Kind: api.Garbage, Size: min(4, n)})
		wantEnd(t, "one bit that is 0", b, n)
		wantAsDefined(t, "one bit that is 0", b)
		if got, wanted := len(record.Scan(b)), (n+3)/4; got != wanted {
			t.Errorf("%d words of garbage in %d bytes, want %d", got, n, wanted)
		}
	}
}

// P4.2: a record is there whatever follows it, up to its last byte.
func TestRecordIsThere(t *testing.T) {
	for _, p := range payloads() {
		whole := defined(p)
		valid := api.Record{Kind: api.Valid, Size: len(whole), Payload: p}
		for _, behind := range [][]byte{nil, {0}, {255}, ones(9), make([]byte, 9), whole} {
			wantAt(t, "a record", join(whole, behind), valid)
		}
		wantScan(t, "a record and nothing", join(whole, ones(7)), valid)
		wantEnd(t, "a record and nothing", join(whole, ones(7)), len(whole))
		for _, less := range []int{1, 2, 3, 4, 5, 8, 11} {
			if less < len(whole) {
				wantAt(t, "a record that is not all there", whole[:len(whole)-less], api.Record{Kind: api.Garbage, Size: min(4, len(whole)-less)})
			}
		}
	}
}

// P4.2: a record with any bit changed is none.
func TestEachBitCounts(t *testing.T) {
	for _, n := range []int{0, 1, 2, 3, 4, 7, 20} {
		b := defined(someBytes(uint32(n+3), n))
		size := len(b)
		for bit := range 8 * size {
			b[bit/8] ^= 1 << (bit % 8)
			wanted := api.Record{Kind: api.Torn, Size: size}
			if bit < 32 {
				wanted = api.Record{Kind: api.Garbage, Size: 4}
			}
			wantAt(t, "a record with one bit changed", b, wanted)
			wantAsDefined(t, "a record with one bit changed", join(b, defined([]byte{9}), ones(5)))
			b[bit/8] ^= 1 << (bit % 8)
		}
	}
}

// P4.2: what a payload is filled up with is 255, even if the sum is that of something else there.
func TestFilledWithSomethingElse(t *testing.T) {
	for n := 1; n < 4; n++ {
		for filled := n; filled < 4; filled++ {
			b := defined([]byte{1, 2, 3, 4})
			b[1], b[3] = byte(n), ^byte(n)
			copy(b[4:8], ones(4))
			b[4+filled] = 254
			copy(b[8:12], sumOf(b[:8]))
			wantAt(t, "a record that is filled with something else", b, api.Record{Kind: api.Torn, Size: 16})
		}
	}
}

// P4.2: head, then nothing or anything, but as many bytes as such a record has.
func TestTornByItsHead(t *testing.T) {
	for _, n := range lengths {
		size := record.Size(n)
		head := defined(make([]byte, n))[:4]
		for _, rest := range [][]byte{ones(size - 4), make([]byte, size-4), someBytes(7, size-4)} {
			b := join(head, rest)
			wantAt(t, "a head", b, api.Record{Kind: api.Torn, Size: size})
			wantAt(t, "a head with more behind", join(b, []byte{1, 2, 3}), api.Record{Kind: api.Torn, Size: size})
			wantAt(t, "a head with too little behind", b[:size-1], api.Record{Kind: api.Garbage, Size: 4})
			wantEnd(t, "a head", join(b, ones(20)), size) // though its own bytes may be 255
		}
	}
}

// P4.2: all heads: those of payloads that are allowed, and no others.
func TestAllHeads(t *testing.T) {
	b := make([]byte, 5000)
	for n := range 65536 {
		b[0], b[1], b[2], b[3] = byte(n>>8), byte(n), ^byte(n>>8), ^byte(n)
		wanted := api.Record{Kind: api.Garbage, Size: 4}
		if n <= 4080 {
			wanted = api.Record{Kind: api.Torn, Size: record.Size(n)}
		}
		wantAt(t, "a head", b, wanted)
	}
}

// P4.2: fewer bytes than a word.
func TestLessThanAWord(t *testing.T) {
	for _, b := range [][]byte{{0}, {254}, {0, 0}, {255, 0}, {0, 0, 255}, {0, 1, 255}, {255, 255, 0}} {
		wantAt(t, "less than a word", b, api.Record{Kind: api.Garbage, Size: len(b)})
		wantScan(t, "less than a word", b, api.Record{Kind: api.Garbage, Size: len(b)})
		wantEnd(t, "less than a word", b, len(b))
	}
}

// P4.2: what stands behind what.
func TestScanOfSeveral(t *testing.T) {
	one, none, long := defined([]byte("one")), defined(nil), defined(make([]byte, 300))
	torn := join(defined([]byte("torn"))[:12], ones(4))
	b := join(one, ones(4), none, []byte{0, 1, 255, 255}, torn, []byte{1, 2, 3, 4, 5, 6, 7, 8}, long, []byte{0, 4}, ones(11))
	wantScan(t, "several", b,
		api.Record{At: 0, Size: 16, Kind: api.Valid, Payload: []byte("one")},
		api.Record{At: 16, Size: 4, Kind: api.Garbage},
		api.Record{At: 20, Size: 12, Kind: api.Valid},
		api.Record{At: 32, Size: 4, Kind: api.Garbage},
		api.Record{At: 36, Size: 16, Kind: api.Torn},
		api.Record{At: 52, Size: 4, Kind: api.Garbage},
		api.Record{At: 56, Size: 4, Kind: api.Garbage},
		api.Record{At: 60, Size: 312, Kind: api.Valid, Payload: make([]byte, 300)},
		api.Record{At: 372, Size: 4, Kind: api.Garbage},
	)
	wantEnd(t, "several", b, 376)
	wantAsDefined(t, "several", b)
}

// P4.2: a torn record takes as many bytes as its head tells, whatever stands in them.
func TestTornTakesWhatFollows(t *testing.T) {
	b := join([]byte{0, 0, 255, 255}, defined([]byte("hidden")), defined([]byte("seen")))
	wantScan(t, "a head ahead of records", b,
		api.Record{At: 0, Size: 12, Kind: api.Torn},
		api.Record{At: 12, Size: 4, Kind: api.Garbage},
		api.Record{At: 16, Size: 4, Kind: api.Garbage},
		api.Record{At: 20, Size: 4, Kind: api.Garbage},
		api.Record{At: 24, Size: 16, Kind: api.Valid, Payload: []byte("seen")},
	)
	wantEnd(t, "a head ahead of records", b, 40)
}

// P4.2: mixtures of everything, against the chapter's Terms.
func TestMixtures(t *testing.T) {
	next := numbers(11)
	for range 3000 {
		b := mixture(next)
		wantAsDefined(t, "a mixture", b)
		checkRow(t, b)
	}
}

// mixture is some pieces, one behind the other, cut off somewhere; bits of it may be changed.
func mixture(next func(int) int) []byte {
	var b []byte
	for range 1 + next(6) {
		p := someBytes(uint32(1+next(1<<20)), next(24))
		whole := defined(p)
		switch next(6) {
		case 0:
			b = append(b, ones(next(13))...)
		case 1:
			b = append(b, p...)
		case 2:
			b = append(b, join(whole[:next(len(whole))], ones(next(20)))...)
		default:
			b = append(b, whole...)
		}
	}
	if next(3) == 0 && len(b) > 0 {
		b[next(len(b))] &^= byte(next(256))
	}
	if next(3) == 0 {
		b = b[:next(len(b)+1)]
	}
	return b
}

// checkRow: things lie side by side, none is nothing, and nothing follows them.
func checkRow(t *testing.T, b []byte) {
	t.Helper()
	at := 0
	for _, r := range record.Scan(b) {
		if r.At != at || r.Size < 1 || r.Kind == api.Blank {
			t.Errorf("%v at %d", r, at)
		}
		at += r.Size
		if at > len(b) {
			t.Fatalf("%v ends behind %d bytes", r, len(b))
		}
	}
	wantEnd(t, "a row", b, at)
	wantAt(t, "what is behind a row", b[at:], api.Record{Kind: api.Blank, Size: len(b) - at})
}

// R3: payloads are in memory of their own.
func TestPayloadsAreSeparate(t *testing.T) {
	b := join(defined([]byte("first")), defined([]byte("second")))
	at, l := record.At(b), record.Scan(b)
	wantSeparate := func(change func()) {
		t.Helper()
		change()
		wantBytes(t, "the payload of At", at.Payload, []byte("first"))
		wantBytes(t, "the second payload of Scan", l[1].Payload, []byte("second"))
	}
	before := slices.Clone(b)
	wantSeparate(func() { _ = append(at.Payload, "behind it"...) })
	wantSeparate(func() { clear(l[0].Payload[:cap(l[0].Payload)]) })
	wantBytes(t, "the bytes", b, before)
	wantSeparate(func() { clear(b) })
}

// Many bytes of garbage, each of which might be nothing up to the end, take one pass.
func TestLongGarbage(t *testing.T) {
	b := ones(1 << 22)
	b[len(b)-1] = 0
	wantEnd(t, "long garbage", b, len(b))
	if n := len(record.Scan(b)); n != len(b)/4 {
		t.Errorf("%d words of garbage, want %d", n, len(b)/4)
	}
	wantAt(t, "long nothing", bytes.Repeat([]byte{255}, len(b)), api.Record{Kind: api.Blank, Size: len(b)})
}
