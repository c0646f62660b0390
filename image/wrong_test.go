package image_test

import (
	"bytes"
	"slices"
	"strings"
	"testing"

	"lightship/api"
)

// P10.1: cut off anywhere, bytes are those of the words that are whole, if they end there, and else of none.
func TestBytesCutOff(t *testing.T) {
	l := []api.Word{{Name: "square", Code: codeOf(3)}, {Name: ";", Flags: 3}, {Name: letters[:31], Flags: 1, Code: codeOf(300)}, {Name: "x", Code: codeOf(1)}}
	b := definedAll(l)
	ends := map[int]int{}
	for i := range len(l) + 1 {
		ends[len(definedAll(l[:i]))] = i
	}
	for n := range len(b) + 1 {
		if i, whole := ends[n]; whole {
			wantDecoded(t, "whole words", b[:n], l[:i])
		} else {
			wantNone(t, "cut off", b[:n])
		}
	}
}

// P10.1: what is cut off stays so, whatever stands behind it in the same memory.
func TestBytesBehindTheEnd(t *testing.T) {
	b := definedAll([]api.Word{{Name: "abc", Code: codeOf(2)}, {Name: "d"}})
	for n := 1; n < len(b); n++ {
		if n != 15 {
			wantNone(t, "with spare capacity", b[:n])
			wantNone(t, "without spare capacity", b[:n:n])
		}
	}
}

// P10.1: bytes in front of words, and behind them.
func TestBytesBesideWords(t *testing.T) {
	b := defined(api.Word{Name: "x", Flags: 1, Code: codeOf(2)})
	for n := 1; n < 12; n++ {
		for _, c := range []byte{0, 1, 2, 33, 120, 126, 255} {
			other := bytes.Repeat([]byte{c}, n)
			wantNone(t, "behind", slices.Concat(b, other))
			wantNone(t, "between", slices.Concat(b, other, b))
			wantNone(t, "alone", other)
		}
		wantNone(t, "zeros ahead", slices.Concat(make([]byte, n), b))
	}
}

// P10.1: bytes that tell a word that is not right, all of which are there, alone or among right ones.
func TestBytesOfWrongWords(t *testing.T) {
	right := defined(api.Word{Name: "x", Flags: 1, Code: codeOf(2)})
	for _, w := range wrongWords() {
		if len(w.Name) > 255 || len(w.Code) > 65535 {
			continue // a head can't tell so many
		}
		wantNone(t, w.Name, defined(w))
		wantNone(t, w.Name, slices.Concat(right, defined(w), right))
		wantNone(t, w.Name, slices.Concat(right, right, defined(w)))
	}
}

// P10.1: each number of letters, with as many letters as it tells, with one more, and with one less.
func TestBytesOfNames(t *testing.T) {
	for n := range 256 {
		for given := max(n-1, 0); given <= n+1; given++ {
			name := strings.Repeat("a", given)
			b := append([]byte{byte(n), 0, 0, 0}, name...)
			if given == n && n >= 1 && n <= 31 {
				wantDecoded(t, name, b, []api.Word{{Name: name}})
			} else {
				wantNone(t, name, b)
			}
		}
	}
}

// P10.1: each number of cells that a head can tell, with their bytes or without.
func TestBytesOfCode(t *testing.T) {
	zeros := make([]byte, 4*1100)
	for n := range 1<<16 - 1 {
		head := []byte{1, 0, byte(n % 256), byte(n / 256), 'x'}
		if n > 0 {
			wantNone(t, "no cells", head)
		}
		if n >= 1100 {
			continue
		}
		b := slices.Concat(head, zeros[:4*n])
		if n <= 1000 {
			wantDecoded(t, "as many cells", b, []api.Word{{Name: "x", Code: make([]uint32, n)}})
		} else {
			wantNone(t, "too many cells", b)
		}
		wantNone(t, "a byte less", b[:len(b)-1])
		wantNone(t, "a byte more", slices.Concat(b, []byte{0}))
		wantNone(t, "a cell more", slices.Concat(b, zeros[:4]))
	}
	wantNone(t, "as many cells as a head can tell", slices.Concat([]byte{1, 0, 255, 255, 'x'}, make([]byte, 4*65535)))
}

// P10.1: all flags, and all letters, of words whose bytes are there.
func TestBytesOfFlagsAndLetters(t *testing.T) {
	for c := range 256 {
		byFlags := []byte{1, byte(c), 0, 0, 'x'}
		byLetter := []byte{1, 3, 0, 0, byte(c)}
		if c < 4 {
			wantDecoded(t, "flags", byFlags, []api.Word{{Name: "x", Flags: uint8(c)}})
		} else {
			wantNone(t, "flags", byFlags)
		}
		if strings.IndexByte(letters, byte(c)) >= 0 {
			wantDecoded(t, "letter", byLetter, []api.Word{{Name: string(rune(c)), Flags: 3}})
		} else {
			wantNone(t, "letter", byLetter)
		}
	}
}
