package sha

import (
	"iter"
	"math/bits"
)

// squareRoots are the first 32 bits behind the point of the square roots of the first eight primes.
var squareRoots = [8]uint32{
	0x6a09e667, 0xbb67ae85, 0x3c6ef372, 0xa54ff53a, 0x510e527f, 0x9b05688c, 0x1f83d9ab, 0x5be0cd19,
}

// cubeRoots are those of the cube roots of the first 64 primes: the K of the rounds.
var cubeRoots = [64]uint32{
	0x428a2f98, 0x71374491, 0xb5c0fbcf, 0xe9b5dba5, 0x3956c25b, 0x59f111f1, 0x923f82a4, 0xab1c5ed5,
	0xd807aa98, 0x12835b01, 0x243185be, 0x550c7dc3, 0x72be5d74, 0x80deb1fe, 0x9bdc06a7, 0xc19bf174,
	0xe49b69c1, 0xefbe4786, 0x0fc19dc6, 0x240ca1cc, 0x2de92c6f, 0x4a7484aa, 0x5cb0a9dc, 0x76f988da,
	0x983e5152, 0xa831c66d, 0xb00327c8, 0xbf597fc7, 0xc6e00bf3, 0xd5a79147, 0x06ca6351, 0x14292967,
	0x27b70a85, 0x2e1b2138, 0x4d2c6dfc, 0x53380d13, 0x650a7354, 0x766a0abb, 0x81c2c92e, 0x92722c85,
	0xa2bfe8a1, 0xa81a664b, 0xc24b8b70, 0xc76c51a3, 0xd192e819, 0xd6990624, 0xf40e3585, 0x106aa070,
	0x19a4c116, 0x1e376c08, 0x2748774c, 0x34b0bcb5, 0x391c0cb3, 0x4ed8aa4a, 0x5b9cca4f, 0x682e6ff3,
	0x748f82ee, 0x78a5636f, 0x84c87814, 0x8cc70208, 0x90befffa, 0xa4506ceb, 0xbef9a3f7, 0xc67178f2,
}

// after returns what one more block makes of the words.
func after(words [8]uint32, block [blockSize]byte) [8]uint32 {
	c := circle{words: words}
	for k, word := range rounds(block) {
		c.round(k, word)
	}
	for i := range words {
		words[i] += *c.at(i)
	}
	return words
}

// rounds yields the K and the word of each round.
func rounds(block [blockSize]byte) iter.Seq2[uint32, uint32] {
	return func(yield func(k, word uint32) bool) {
		words := wordsOf(block) // within the loop's function, as the loop writes over them
		for i, k := range cubeRoots {
			if i >= len(words) {
				compute(&words, i)
			}
			if !yield(k, words[i%16]) {
				return
			}
		}
	}
}

// compute puts word i where the word 16 before it stands, which nothing needs afterwards.
func compute(words *[16]uint32, i int) {
	two, fifteen := words[(i-2)%16], words[(i-15)%16]
	s0 := rotated(fifteen, 7) ^ rotated(fifteen, 18) ^ fifteen>>3
	s1 := rotated(two, 17) ^ rotated(two, 19) ^ two>>10
	words[i%16] += words[(i-7)%16] + s0 + s1
}

func wordsOf(block [blockSize]byte) [16]uint32 {
	var words [16]uint32
	for i, b := range block {
		words[i/4] = words[i/4]<<8 | uint32(b)
	}
	return words
}

// circle is the words a to h of the rounds: a stands at first, and the others follow it cyclically, so that a round moves first instead of the words.
type circle struct {
	words [8]uint32
	first int
}

// at returns the place of a for 0, up to that of h for 7.
func (c *circle) at(i int) *uint32 {
	return &c.words[(c.first+i)%8]
}

func (c *circle) round(k, word uint32) {
	h := c.at(7)
	t := *h + mixedE(*c.at(4), *c.at(5), *c.at(6)) + k + word
	u := mixedA(*c.at(0), *c.at(1), *c.at(2))
	*c.at(3) += t
	*h = t + u
	c.first = (c.first + 7) % 8
}

func mixedE(e, f, g uint32) uint32 {
	s1 := rotated(e, 6) ^ rotated(e, 11) ^ rotated(e, 25)
	return s1 + (e&f ^ ^e&g)
}

func mixedA(a, b, c uint32) uint32 {
	s0 := rotated(a, 2) ^ rotated(a, 13) ^ rotated(a, 22)
	return s0 + (a&b ^ a&c ^ b&c)
}

// rotated turns to the right, where the library turns to the left.
func rotated(x uint32, by int) uint32 {
	return bits.RotateLeft32(x, -by)
}
