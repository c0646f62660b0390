package crc_test

import (
	"bytes"
	"hash/crc32"
	"math"
	"math/bits"
	"slices"
	"testing"

	"lightship/crc"
)

// numbers returns a row of numbers that look random, and are the same each time.
func numbers(seed uint32) func() uint32 {
	return func() uint32 {
		seed ^= seed << 13
		seed ^= seed >> 17
		seed ^= seed << 5
		return seed
	}
}

func someBytes(seed uint32, n int) []byte {
	next := numbers(seed)
	b := make([]byte, n)
	for i := range b {
		b[i] = byte(next() >> 11)
	}
	return b
}

// someStates are states at the edges, and others.
func someStates() []uint32 {
	states := []uint32{0, 1, 2, 15, 16, 255, 256, 1 << 31, 1<<31 - 1, 1<<32 - 2, 1<<32 - 1, 0xdebb20e3, 0xedb88320, 0x04c11db7}
	next := numbers(77)
	for range 50 {
		states = append(states, next())
	}
	return states
}

// powers are those of the polynomial, x^32 among them, at the bits of their numbers.
func powers() uint64 {
	var p uint64
	for _, power := range []int{32, 26, 23, 22, 16, 12, 11, 10, 8, 7, 5, 4, 2, 1, 0} {
		p |= 1 << power
	}
	return p
}

// defined is the CRC of bytes as the chapter's Terms define it, by a long division, bit by bit.
func defined(b []byte) uint32 {
	var row []bool
	for _, x := range b {
		for i := range 8 {
			row = append(row, x>>i&1 == 1)
		}
	}
	row = append(row, make([]bool, 32)...) // times x^32; and the zeros behind fewer than 32 bits
	for i := range 32 {
		row[i] = !row[i]
	}
	p := powers()
	for i := range len(row) - 32 {
		if row[i] {
			for k := range 33 {
				row[i+k] = row[i+k] != (p>>(32-k)&1 == 1)
			}
		}
	}
	var sum uint32
	for i, bit := range row[len(row)-32:] {
		if !bit {
			sum |= 1 << i
		}
	}
	return sum
}

// bytesTo returns the four bytes whose state is this one: each step for a bit is taken back.
func bytesTo(state uint32) []byte {
	for range 32 {
		if state>>31 == 1 {
			state = (state^bits.Reverse32(uint32(powers())))<<1 | 1
		} else {
			state <<= 1
		}
	}
	state = ^state
	return []byte{byte(state), byte(state >> 8), byte(state >> 16), byte(state >> 24)}
}

// multiplied is the product of two polynomials, modulo the polynomial.
func multiplied(a, b uint32) uint32 {
	var product uint64
	for i := 31; i >= 0; i-- {
		product <<= 1
		if product>>32 == 1 {
			product ^= powers()
		}
		if b>>i&1 == 1 {
			product ^= uint64(a)
		}
	}
	return uint32(product)
}

// joined is what Join has to return, by polynomials: n bytes behind others are a multiplication by x^8, n times.
func joined(one, two uint32, n int) uint32 {
	factor, square := uint32(1), uint32(1<<8)
	for ; n > 0; n /= 2 {
		if n%2 == 1 {
			factor = multiplied(factor, square)
		}
		square = multiplied(square, square)
	}
	return bits.Reverse32(multiplied(bits.Reverse32(one), factor)) ^ two
}

func want(t *testing.T, what string, got, wanted uint32) {
	t.Helper()
	if got != wanted {
		t.Errorf("%q: %08x, want %08x", what, got, wanted)
	}
}

// The chapter's examples, number by number.
func TestExamples(t *testing.T) {
	want(t, "no bytes", crc.Of(nil), 0)
	want(t, "123456789", crc.Of([]byte("123456789")), 3421780262)
	want(t, "123456789", crc.Of([]byte("123456789")), 0xcbf43926)
	want(t, "one byte 0", crc.Of([]byte{0}), 3523407757)
	want(t, "one byte 0", crc.Of([]byte{0}), 0xd202ef8d)
	want(t, "1234 and 56789", crc.Join(crc.Of([]byte("1234")), crc.Of([]byte("56789")), 5), 3421780262)
}

// P2.1: known numbers, of fewer than four bytes too.
func TestOfKnownTexts(t *testing.T) {
	for _, k := range []struct {
		text string
		sum  uint32
	}{
		{"", 0},
		{"\x00\x00", 0x41d912ff},
		{"\x00\x00\x00", 0xff41d912},
		{"\x00\x00\x00\x00", 0x2144df1c},
		{"\xff", 0xff000000},
		{"\xff\xff\xff\xff", 0xffffffff},
		{"ab", 0x9e83486d},
		{"abc", 0x352441c2},
		{"1234", 0x9be3e0a3},
		{"56789", 0x131da070},
		{"The quick brown fox jumps over the lazy dog", 0x414fa339},
	} {
		want(t, k.text, crc.Of([]byte(k.text)), k.sum)
	}
	want(t, "an empty list", crc.Of([]byte{}), 0)
}

// P2.1: the lowest bit of a byte comes first, and the first byte first.
func TestOrderOfBits(t *testing.T) {
	want(t, "byte 1", crc.Of([]byte{1}), 0xa505df1b)
	want(t, "byte 128", crc.Of([]byte{128}), 0x3fba6cad)
	want(t, "bytes 1 0", crc.Of([]byte{1, 0}), 0x58c223be)
	want(t, "bytes 0 1", crc.Of([]byte{0, 1}), 0x36de2269)
	for i := range 256 {
		want(t, "one byte", crc.Of([]byte{byte(i)}), defined([]byte{byte(i)}))
	}
}

// P2.1: Of is what the Terms define.
func TestOfIsAsDefined(t *testing.T) {
	for n := range 130 {
		for seed := range uint32(5) {
			b := someBytes(seed+1, n)
			want(t, "some bytes", crc.Of(b), defined(b))
		}
		want(t, "zeros", crc.Of(make([]byte, n)), defined(make([]byte, n)))
		ones := bytes.Repeat([]byte{255}, n)
		want(t, "ones", crc.Of(ones), defined(ones))
	}
	for _, n := range []int{255, 256, 257, 4096, 65537, 1 << 20} {
		b := someBytes(9, n)
		want(t, "many bytes", crc.Of(b), crc32.ChecksumIEEE(b))
	}
}

// P2.1: Begin, Add and End, one after the other, are Of.
func TestBeginAddEnd(t *testing.T) {
	want(t, "Begin", crc.Begin(), 0xffffffff)
	for n := range 70 {
		b := someBytes(3, n)
		want(t, "some bytes", crc.End(crc.Add(crc.Begin(), b)), defined(b))
	}
}

// P2.1: End inverts each bit, of any state; no bytes leave any state as it is.
func TestStatesWithNoMoreBytes(t *testing.T) {
	for _, s := range someStates() {
		want(t, "End", crc.End(s), 0xffffffff-s)
		want(t, "Add of none", crc.Add(s, nil), s)
		want(t, "Add of an empty list", crc.Add(s, []byte{}), s)
	}
}

// P2.1: each number is a state, and Add goes on from it.
func TestAddGoesOnFromAnyState(t *testing.T) {
	for _, s := range someStates() {
		a := bytesTo(s)
		want(t, "the state of four bytes", crc.Add(crc.Begin(), a), s)
		for _, n := range []int{0, 1, 2, 3, 4, 5, 31, 64} {
			b := someBytes(s|1, n)
			want(t, "more bytes", crc.End(crc.Add(s, b)), defined(append(slices.Clone(a), b...)))
		}
	}
}

// P2.1, R3: the bytes are not changed, nor what lies behind them.
func TestBytesStay(t *testing.T) {
	whole := someBytes(5, 40)
	before := slices.Clone(whole)
	crc.Of(whole[:20])
	crc.Add(crc.Begin(), whole[:20])
	if !bytes.Equal(whole, before) {
		t.Error("the bytes have changed")
	}
	state := crc.Add(crc.Begin(), whole)
	sum := crc.End(state)
	clear(whole)
	want(t, "later, with other bytes in the list", crc.End(crc.Add(state, nil)), sum)
}

// P2.2: both parts of a text, cut anywhere; with nothing before the cut, or behind it.
func TestJoinOfBothParts(t *testing.T) {
	for _, n := range []int{0, 1, 2, 3, 4, 9, 33, 300} {
		b := someBytes(uint32(n+1), n)
		for cut := range n + 1 {
			got := crc.Join(crc.Of(b[:cut]), crc.Of(b[cut:]), n-cut)
			want(t, "both parts", got, defined(b))
		}
	}
}

// P2.2: with an n of 0 or below, one, with those bits inverted that are 1 in two.
func TestJoinWithoutLength(t *testing.T) {
	for _, n := range []int{0, -1, -2, -7, -8, -256, math.MinInt + 1, math.MinInt} {
		want(t, "5 and 3", crc.Join(5, 3, n), 6)
		want(t, "nothing behind", crc.Join(0xcbf43926, 0, n), 0xcbf43926)
		want(t, "0 and all ones", crc.Join(0, 0xffffffff, n), 0xffffffff)
		for _, one := range someStates() {
			want(t, "two numbers", crc.Join(one, 0x12345678, n), one&^0x12345678|0x12345678&^one)
		}
	}
}

// P2.2: nothing before: the CRC of the second, however long.
func TestJoinBehindNothing(t *testing.T) {
	for _, n := range []int{1, 3, 4, 100, 1 << 30, math.MaxInt} {
		for _, two := range someStates() {
			want(t, "behind nothing", crc.Join(0, two, n), two)
		}
	}
}

// P2.2: long texts.
func TestJoinOfManyBytes(t *testing.T) {
	a := someBytes(11, 1000)
	for _, n := range []int{255, 256, 65535, 65536, 1<<20 + 1} {
		b := someBytes(12, n)
		both := append(slices.Clone(a), b...)
		want(t, "many bytes", crc.Join(crc.Of(a), crc.Of(b), n), crc32.ChecksumIEEE(both))
	}
}

// P2.2: lengths that no list has here, up to the greatest, by the product of polynomials.
func TestJoinWithLargeLengths(t *testing.T) {
	large := []int{1, 2, 3, 1 << 28, 1<<29 - 1, 1 << 30, math.MaxInt32, math.MaxInt / 8, math.MaxInt/8 + 1, math.MaxInt/2 + 1, math.MaxInt - 1, math.MaxInt}
	for _, n := range large {
		for _, one := range someStates() {
			want(t, "a large n", crc.Join(one, 0x89abcdef, n), joined(one, 0x89abcdef, n))
		}
	}
}

// P2.2: powers of x come again after 2^32 - 1 steps, and so do lengths.
func TestJoinLengthsComeAgain(t *testing.T) {
	if math.MaxInt == math.MaxInt32 {
		t.Skip("no int is that large")
	}
	again := uint64(1)<<32 - 1
	for _, one := range someStates() {
		want(t, "2^32 - 1", crc.Join(one, 9, int(again)), one^9)
		for n := range 20 {
			want(t, "some more", crc.Join(one, 9, int(again)+n), crc.Join(one, 9, n))
		}
	}
}

// P2.2: of three texts it does not matter which two are joined first.
func TestJoinOfThree(t *testing.T) {
	for n := range 40 {
		a, b, c := someBytes(21, n), someBytes(22, 39-n), someBytes(23, n/2)
		one, two, three := crc.Of(a), crc.Of(b), crc.Of(c)
		first := crc.Join(crc.Join(one, two, len(b)), three, len(c))
		last := crc.Join(one, crc.Join(two, three, len(c)), len(b)+len(c))
		want(t, "the last two first", last, first)
		want(t, "three texts", first, defined(slices.Concat(a, b, c)))
	}
}

// P2.3: in whatever pieces bytes come, the CRC is the same.
func TestPieces(t *testing.T) {
	b := someBytes(31, 61)
	sum := defined(b)
	for i := range len(b) + 1 {
		for k := i; k <= len(b); k++ {
			state := crc.Begin()
			for _, piece := range [][]byte{b[:i], b[i:k], b[k:]} {
				state = crc.Add(state, piece)
			}
			want(t, "three pieces", crc.End(state), sum)
		}
	}
	for size := 1; size <= len(b); size++ {
		state := crc.Begin()
		for piece := range slices.Chunk(b, size) {
			state = crc.Add(crc.Add(state, piece), nil)
		}
		want(t, "pieces of one size", crc.End(state), sum)
	}
}

// P2.3: one bit changed, anywhere, is another CRC.
func TestOneBitChanged(t *testing.T) {
	for _, n := range []int{1, 2, 3, 4, 5, 16, 300} {
		b := someBytes(uint32(n), n)
		sum := crc.Of(b)
		for i := range n * 8 {
			b[i/8] ^= 1 << (i % 8)
			if crc.Of(b) == sum {
				t.Errorf("%d bytes, bit %d changed: the same CRC", n, i)
			}
			b[i/8] ^= 1 << (i % 8)
		}
	}
}

// changed returns b with those bits changed that are 1 in the pattern, whose lowest bit is at bit from.
func changed(b []byte, from int, pattern uint32) []byte {
	c := slices.Clone(b)
	for i := range 32 {
		if pattern>>i&1 == 1 {
			c[(from+i)/8] ^= 1 << ((from + i) % 8)
		}
	}
	return c
}

// P2.3: any bits changed that lie within 32 consecutive ones are another CRC.
func TestBitsChangedWithin32(t *testing.T) {
	patterns := []uint32{3, 5, 0xff, 0x80000001, 0x80000000, 0xffffffff, 0xedb88320, 0xdb710641, 0x04c11db7}
	for i := range 32 {
		patterns = append(patterns, 1|1<<i, 1<<31|1<<i, 1<<i|(1<<i-1))
	}
	next := numbers(41)
	for range 100 {
		patterns = append(patterns, next())
	}
	for _, n := range []int{4, 5, 7, 12, 40} {
		b := someBytes(uint32(n+50), n)
		sum := crc.Of(b)
		for from := range n*8 - 31 {
			for _, p := range patterns {
				if crc.Of(changed(b, from, p)) == sum {
					t.Errorf("%d bytes, pattern %08x at bit %d: the same CRC", n, p, from)
				}
			}
		}
	}
}

// P2.3: in texts of fewer than 32 bits all bits lie within 32, so no two of one length have the same CRC.
func TestShortTextsDiffer(t *testing.T) {
	seen := map[uint32]int{}
	for i := range 1 << 16 {
		sum := crc.Of([]byte{byte(i), byte(i >> 8)})
		if k, ok := seen[sum]; ok {
			t.Fatalf("two bytes %04x and %04x: the same CRC", i, k)
		}
		seen[sum] = i
	}
}
