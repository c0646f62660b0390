package image_test

import (
	"math"
	"slices"
	"strings"
	"testing"

	"lightship/api"
	"lightship/image"
)

// P10.1: the number of bytes, of words at all edges.
func TestRightWords(t *testing.T) {
	for _, w := range rightWords() {
		if !image.Right(w) || image.Size(w) != len(defined(w)) {
			t.Errorf("%q, flags %d, %d cells: right: %v, size %d, want %d", w.Name, w.Flags, len(w.Code), image.Right(w), image.Size(w), len(defined(w)))
		}
	}
	want(t, "the greatest Size", image.Size(api.Word{Name: letters[:31], Flags: 3, Code: make([]uint32, 1000)}), 4035)
	want(t, "the least Size", image.Size(api.Word{Name: "x"}), 5)
}

// P10.1: words that are wrong in one thing have no bytes.
func TestWrongWords(t *testing.T) {
	for _, w := range wrongWords() {
		if image.Right(w) || image.Size(w) != 0 {
			t.Errorf("%q, flags %d, %d cells: right: %v, size %d", w.Name, w.Flags, len(w.Code), image.Right(w), image.Size(w))
		}
	}
}

// P10.1: names of all lengths, with each byte at each place of them.
func TestNames(t *testing.T) {
	for n := range 40 {
		for i := range n {
			for c := range 256 {
				name := []byte(strings.Repeat("a", n))
				name[i] = byte(c)
				right := n <= 31 && c > 32 && c < 127
				want(t, "Right of a name", image.Right(api.Word{Name: string(name)}), right)
			}
		}
	}
}

// P10.1: all flags, and all counts of cells up to beyond what is allowed.
func TestFlagsAndCode(t *testing.T) {
	for flags := range 256 {
		want(t, "Right by its flags", image.Right(api.Word{Name: "x", Flags: uint8(flags)}), flags <= 3)
	}
	for n := range 1100 {
		w := api.Word{Name: "name", Code: make([]uint32, n)}
		size := 8 + 4*n
		if n > 1000 {
			size = 0
		}
		want(t, "Right by its code", image.Right(w), n <= 1000)
		want(t, "Size", image.Size(w), size)
	}
}

// P10.1 (R6): no code, and code of no cells, are the same.
func TestNoCode(t *testing.T) {
	for _, code := range [][]uint32{nil, {}, codeOf(3)[:0]} {
		w := api.Word{Name: "x", Flags: 2, Code: code}
		want(t, "Right", image.Right(w), true)
		want(t, "Size", image.Size(w), 5)
		wantBytes(t, "Encode", encoded(t, w), []byte{1, 2, 0, 0, 'x'})
	}
}

// P10.1 (R3): what is looked at stays as it is, with its spare capacity.
func TestWordsStay(t *testing.T) {
	code := slices.Repeat([]uint32{7, math.MaxUint32}, 10)
	w := api.Word{Name: "x", Flags: 1, Code: code[:5]}
	image.Right(w)
	image.Size(w)
	encoded(t, w)
	image.Find([]api.Word{w}, "X")
	if !slices.Equal(code, slices.Repeat([]uint32{7, math.MaxUint32}, 10)) {
		t.Errorf("code became %d", code)
	}
}
