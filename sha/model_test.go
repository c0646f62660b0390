package sha_test

import (
	"math/big"
	"slices"
)

// defined is the SHA-256 of bytes as the chapter's Terms define it: the whole text is padded, and all words of a block are there at once.
func defined(b []byte) [32]byte {
	words := rootWords(8, 2)
	for block := range slices.Chunk(paddedText(b), 64) {
		v := slices.Clone(words)
		for i, word := range blockWords(block) {
			v = roundOn(v, definedK[i], word)
		}
		for i := range words {
			words[i] += v[i]
		}
	}
	var sum [32]byte
	for i, w := range words {
		sum[4*i], sum[4*i+1], sum[4*i+2], sum[4*i+3] = byte(w>>24), byte(w>>16), byte(w>>8), byte(w)
	}
	return sum
}

var definedK = rootWords(64, 3)

// rootWords returns the first 32 bits behind the point of a root (2: the square's, 3: the cube's) of the first primes.
func rootWords(primes int, root int64) []uint32 {
	var words []uint32
	for p := int64(2); len(words) < primes; p++ {
		if big.NewInt(p).ProbablyPrime(0) {
			words = append(words, rootWord(p, root))
		}
	}
	return words
}

// rootWord looks for the greatest whole number whose power is not above p, moved so that 32 bits of its root are before the point.
func rootWord(p, root int64) uint32 {
	moved := new(big.Int).Lsh(big.NewInt(p), uint(32*root))
	low := new(big.Int)
	for bit := 40; bit >= 0; bit-- {
		tried := new(big.Int).SetBit(low, bit, 1)
		if new(big.Int).Exp(tried, big.NewInt(root), nil).Cmp(moved) <= 0 {
			low = tried
		}
	}
	return uint32(low.Uint64())
}

func paddedText(b []byte) []byte {
	p := append(slices.Clone(b), 128)
	for (len(p)+8)%64 != 0 {
		p = append(p, 0)
	}
	count := big.NewInt(int64(len(b)))
	return append(p, count.Lsh(count, 3).FillBytes(make([]byte, 8))...)
}

func blockWords(block []byte) []uint32 {
	var w []uint32
	for i := range 16 {
		w = append(w, uint32(block[4*i])<<24|uint32(block[4*i+1])<<16|uint32(block[4*i+2])<<8|uint32(block[4*i+3]))
	}
	for i := 16; i < 64; i++ {
		s0 := right(w[i-15], 7) ^ right(w[i-15], 18) ^ w[i-15]>>3
		s1 := right(w[i-2], 17) ^ right(w[i-2], 19) ^ w[i-2]>>10
		w = append(w, w[i-16]+w[i-7]+s0+s1)
	}
	return w
}

func roundOn(v []uint32, k, word uint32) []uint32 {
	a, b, c, d, e, f, g, h := v[0], v[1], v[2], v[3], v[4], v[5], v[6], v[7]
	t := h + (right(e, 6) ^ right(e, 11) ^ right(e, 25)) + ((e & f) ^ (^e & g)) + k + word
	u := (right(a, 2) ^ right(a, 13) ^ right(a, 22)) + ((a & b) ^ (a & c) ^ (b & c))
	return []uint32{t + u, a, b, c, d + t, e, f, g}
}

func right(x uint32, by int) uint32 { return x>>by | x<<(32-by) }
