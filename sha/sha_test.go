package sha_test

import (
	"bytes"
	"crypto/sha256"
	"encoding/hex"
	"slices"
	"strings"
	"testing"

	"lightship/api"
	"lightship/sha"
)

// edges are lengths that just fill a block, with or without what is padded, or just do not.
var edges = []int{0, 1, 2, 54, 55, 56, 57, 62, 63, 64, 65, 118, 119, 120, 121, 127, 128, 129}

// numbers returns a row of numbers that look random, and are the same each time.
func numbers(seed uint32) func() uint32 {
	return func() uint32 {
		seed ^= seed << 13
		seed ^= seed >> 17
		seed ^= seed << 5
		return seed
	}
}

func someBytes(seed uint32, n int) []byte {
	next := numbers(seed)
	b := make([]byte, n)
	for i := range b {
		b[i] = byte(next() >> 11)
	}
	return b
}

func written(t *testing.T, pieces ...[]byte) *sha.Hash {
	t.Helper()
	h := sha.New()
	if h == nil {
		t.Fatal("New returned nil")
	}
	for _, p := range pieces {
		write(t, h, p)
	}
	return h
}

func write(t *testing.T, h *sha.Hash, b []byte) {
	t.Helper()
	if e := h.Write(b); e != api.OK {
		t.Fatalf("Write of %d bytes: error %d", len(b), e)
	}
}

// wantHash fails unless h is a hash of these bytes.
func wantHash(t *testing.T, what string, h *sha.Hash, b []byte) {
	t.Helper()
	if h.Len() != len(b) {
		t.Errorf("%s: Len %d, want %d", what, h.Len(), len(b))
	}
	wantSum(t, what, h.Sum(), sha256.Sum256(b))
}

func wantSum(t *testing.T, what string, got, wanted [32]byte) {
	t.Helper()
	if got != wanted {
		t.Errorf("%s: %x, want %x", what, got, wanted)
	}
}

// digits reads a sum as the chapter writes it.
func digits(t *testing.T, text string) [32]byte {
	t.Helper()
	b, err := hex.DecodeString(strings.ReplaceAll(text, " ", ""))
	if err != nil || len(b) != 32 {
		t.Fatalf("%q is no sum", text)
	}
	return [32]byte(b)
}

// nones are hashes that New did not return.
func nones(t *testing.T) map[string]*sha.Hash {
	byValue := *written(t, []byte("abc"))
	return map[string]*sha.Hash{"nil": nil, "zero": {}, "new": new(sha.Hash), "by value": &byValue}
}

// The chapter's examples, number by number.
func TestExamples(t *testing.T) {
	none := digits(t, "e3b0c442 98fc1c14 9afbf4c8 996fb924 27ae41e4 649b934c a495991b 7852b855")
	wantSum(t, "no bytes", sha.Of(nil), none)
	wantSum(t, "no bytes, written", sha.New().Sum(), none)
	abc := digits(t, "ba7816bf 8f01cfea 414140de 5dae2223 b00361a3 96177a9c b410ff61 f20015ad")
	wantSum(t, "abc", sha.Of([]byte("abc")), abc)
	h := written(t, []byte("a"), []byte("bc"))
	wantSum(t, "a and bc", h.Sum(), abc)
	if h.Len() != 3 {
		t.Errorf("a and bc: Len %d, want 3", h.Len())
	}
}

// P3.1: known sums.
func TestOfKnownTexts(t *testing.T) {
	for _, k := range []struct{ text, sum string }{
		{"a", "ca978112ca1bbdcafac231b39a23dc4da786eff8147c4e72b9807785afee48bb"},
		{"\x00", "6e340b9cffb37a989ca544e6bb780a2c78901d3fb33738768511a30617afa01d"},
		{"\xbd", "68325720aabd7c82f30f554b313d0570c95accbb7dc4b5aae11204c08ffe732b"},
		{"abcdbcdecdefdefgefghfghighijhijkijkljklmklmnlmnomnopnopq", "248d6a61d20638b8e5c026930c3e6039a33ce45964ff2167f6ecedd419db06c1"},
		{strings.Repeat("\x00", 55), "02779466cdec163811d078815c633f21901413081449002f24aa3e80f0b88ef7"},
		{strings.Repeat("\x00", 56), "d4817aa5497628e7c77e6b606107042bbba3130888c5f47a375e6179be789fbb"},
		{strings.Repeat("\x00", 64), "f5a5fd42d16a20302798ef6ed309979b43003d2320d9f0e8ea9831a92759fb4b"},
		{strings.Repeat("a", 1000000), "cdc76e5c9914fb9281a1c7e284d73e67f1809a48a497200e046d39ccc7112cd0"},
	} {
		what := k.text[:min(len(k.text), 20)]
		wantSum(t, what, sha.Of([]byte(k.text)), digits(t, k.sum))
		wantSum(t, what+", written", written(t, []byte(k.text)).Sum(), digits(t, k.sum))
	}
}

// P3.1: of every length up to five blocks, by the chapter's Terms, and by the library.
func TestOfIsAsDefined(t *testing.T) {
	for n := range 5*64 + 1 {
		for _, b := range [][]byte{make([]byte, n), bytes.Repeat([]byte{255}, n), someBytes(uint32(n+1), n)} {
			got := sha.Of(b)
			if got != defined(b) || got != sha256.Sum256(b) {
				t.Errorf("%d bytes: %x, want %x", n, got, defined(b))
			}
		}
	}
}

// P3.1: every bit of a text counts, wherever it stands.
func TestOfDiffersByEachBit(t *testing.T) {
	for _, n := range edges {
		b := someBytes(5, n)
		seen := map[[32]byte]int{sha.Of(b): -1}
		for bit := range 8 * n {
			b[bit/8] ^= 1 << (bit % 8)
			sum := sha.Of(b)
			if before, ok := seen[sum]; ok {
				t.Errorf("%d bytes: the same sum with bit %d as with %d", n, bit, before)
			}
			seen[sum] = bit
			b[bit/8] ^= 1 << (bit % 8)
		}
	}
}

// P3.1: a missing list and an empty one are the same (R6).
func TestNoBytes(t *testing.T) {
	wantSum(t, "missing and empty", sha.Of(nil), sha.Of([]byte{}))
	h := sha.New()
	wantHash(t, "new", h, nil)
	for _, none := range [][]byte{nil, {}, make([]byte, 0, 8)} {
		write(t, h, none)
		wantHash(t, "no bytes written", h, nil)
	}
}

// P3.1: a Write of no bytes changes nothing, wherever the text stands within a block.
func TestWriteOfNoBytes(t *testing.T) {
	for _, n := range edges {
		b := someBytes(9, n)
		h := written(t, nil, b, nil, []byte{})
		wantHash(t, "with no bytes around", h, b)
		write(t, h, []byte("more"))
		wantHash(t, "and more", h, append(b, "more"...))
	}
}

// P3.1: Len counts what was written, byte by byte, and Sum is that of what was written so far.
func TestByteByByte(t *testing.T) {
	b := someBytes(3, 5*64+1)
	h := sha.New()
	for i := range b {
		wantHash(t, "so far", h, b[:i])
		write(t, h, b[i:i+1])
	}
	wantHash(t, "all", h, b)
}

// P3.1 (R5): a hash that is none.
func TestNones(t *testing.T) {
	for name, h := range nones(t) {
		for range 2 { // the second time tells whether the first one changed anything
			for _, b := range [][]byte{nil, {}, []byte("abc"), make([]byte, 64), make([]byte, 200)} {
				if e := h.Write(b); e != api.ErrNil {
					t.Errorf("%s: Write of %d bytes: error %d, want ErrNil", name, len(b), e)
				}
			}
			if h.Len() != 0 {
				t.Errorf("%s: Len %d, want 0", name, h.Len())
			}
			wantSum(t, name, h.Sum(), [32]byte{})
		}
	}
}

// P3.1: a hash does not become another one by an assignment, nor does it lose anything by it.
func TestAssignedByValue(t *testing.T) {
	h := written(t, []byte("abc"))
	other := *h
	_ = other.Write([]byte("def"))
	wantHash(t, "original", h, []byte("abc"))
	write(t, h, []byte("d"))
	wantHash(t, "original, and more", h, []byte("abcd"))
}

// P3.1 (R3): bytes that are written over behind a Write were not kept.
func TestBytesWrittenOverBehindWrite(t *testing.T) {
	for _, n := range edges {
		b := someBytes(7, n)
		piece := slices.Clone(b)
		h := written(t, piece)
		clear(piece)
		wantHash(t, "written over", h, b)
		write(t, h, piece)
		for i := range piece {
			piece[i] = 255
		}
		wantHash(t, "written over twice", h, append(b, make([]byte, n)...))
	}
}

// R3: arguments are not changed, nor is their spare capacity.
func TestArgumentsStayAsTheyAre(t *testing.T) {
	for _, n := range edges {
		whole := someBytes(11, n+100)
		before := slices.Clone(whole)
		h := written(t, whole[:n])
		h.Sum()
		sha.Of(whole[:n])
		if !bytes.Equal(whole, before) {
			t.Errorf("%d bytes: an argument, or what is behind it, was changed", n)
		}
	}
}

// P3.1: hashes have nothing in common.
func TestHashesAreSeparate(t *testing.T) {
	one, two := sha.New(), sha.New()
	a, b := someBytes(1, 300), someBytes(2, 300)
	for i := 0; i < 300; i += 30 {
		write(t, one, a[i:i+30])
		write(t, two, b[i:i+30])
		sha.Of(a)
	}
	wantHash(t, "one", one, a)
	wantHash(t, "two", two, b)
	wantHash(t, "a new one", sha.New(), nil)
}

// P3.2: two pieces, with every place between them.
func TestTwoPieces(t *testing.T) {
	for _, n := range edges {
		b := someBytes(13, n)
		for i := range n + 1 {
			wantHash(t, "two pieces", written(t, b[:i], b[i:]), b)
		}
	}
}

// P3.2: three pieces, whose ends are near those of blocks.
func TestThreePieces(t *testing.T) {
	b := someBytes(17, 200)
	for _, i := range edges {
		for _, k := range edges {
			if i <= k {
				wantHash(t, "three pieces", written(t, b[:i], b[i:k], b[k:]), b)
			}
		}
	}
}

// P3.2: many pieces of any lengths, none and several blocks among them.
func TestManyPieces(t *testing.T) {
	next := numbers(19)
	for range 200 {
		b := someBytes(next(), int(next()%2000))
		h := sha.New()
		for rest := b; len(rest) > 0; {
			n := min(len(rest), int(next()%200))
			write(t, h, rest[:n])
			rest = rest[n:]
		}
		wantHash(t, "many pieces", h, b)
	}
}

// P3.2: asked twice it is the same, and more may be written after it.
func TestSumBetweenWrites(t *testing.T) {
	b := someBytes(23, 300)
	for _, i := range edges {
		for _, n := range edges {
			h := written(t, b[:i])
			wantHash(t, "first", h, b[:i])
			wantHash(t, "first, again", h, b[:i])
			write(t, h, b[i:i+n])
			wantHash(t, "both", h, b[:i+n])
			wantHash(t, "both, again", h, b[:i+n])
		}
	}
}
