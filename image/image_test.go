package image_test

import (
	"bytes"
	"math"
	"slices"
	"strings"
	"testing"

	"lightship/api"
	"lightship/image"
)

// letters are those that a name may have, from 33 to 126.
const letters = "!\"#$%&'()*+,-./0123456789:;<=>?@ABCDEFGHIJKLMNOPQRSTUVWXYZ[\\]^_`abcdefghijklmnopqrstuvwxyz{|}~"

// Cells at the edges, and cells whose bytes differ from one another.
var cells = []uint32{0, 1, 255, 256, 0x04030201, 0xfffefdfc, 65535, 65536, 1<<24 - 1, 1 << 24, 1<<31 - 1, 1 << 31, math.MaxUint32 - 1, math.MaxUint32}

// counts are how many cells a right word may have, at the edges.
var counts = []int{0, 1, 2, 3, 4, 127, 128, 254, 255, 256, 257, 511, 512, 513, 767, 768, 998, 999, 1000}

// numbers returns a row of numbers that look random, and are the same each time.
func numbers(seed uint32) func(below int) int {
	seed = seed*2654435761 + 1
	return func(below int) int {
		seed ^= seed << 13
		seed ^= seed >> 17
		seed ^= seed << 5
		return int(seed>>3) % below
	}
}

// codeOf returns n cells, all of which differ, as do their bytes.
func codeOf(n int) []uint32 {
	l := make([]uint32, n)
	for i := range l {
		l[i] = 0x04030201 + uint32(i)*0x01020305
	}
	return l
}

// rightWords are right ones, at all edges.
func rightWords() []api.Word {
	l := []api.Word{{Name: "x", Code: cells}, {Name: "cells", Flags: 3, Code: slices.Repeat(cells, 71)}}
	for n := 1; n <= 31; n++ {
		l = append(l, api.Word{Name: letters[n:][:n]}, api.Word{Name: strings.Repeat("~", n), Flags: 1, Code: codeOf(n)})
	}
	for i := range letters {
		l = append(l, api.Word{Name: letters[i : i+1], Flags: 2, Code: codeOf(1)})
	}
	for i, n := range counts {
		l = append(l, api.Word{Name: letters[:31], Flags: uint8(i % 4), Code: codeOf(n)}, api.Word{Name: "z", Flags: uint8(3 - i%4), Code: make([]uint32, n)})
	}
	for flags := range uint8(4) {
		l = append(l, api.Word{Name: "!", Flags: flags}, api.Word{Name: "flags", Flags: flags, Code: []uint32{math.MaxUint32}})
	}
	return l
}

// wrongWords are wrong in one thing each.
func wrongWords() []api.Word {
	l := []api.Word{{}, {Flags: 3, Code: codeOf(3)}}
	for _, n := range []int{32, 33, 63, 64, 255, 256, 257, 287, 288, 512, 65537} {
		l = append(l, api.Word{Name: strings.Repeat("a", n)})
	}
	for c := range 256 {
		if strings.IndexByte(letters, byte(c)) < 0 {
			one := string([]byte{byte(c)})
			l = append(l, api.Word{Name: one}, api.Word{Name: "ab" + one}, api.Word{Name: "a" + one + "b"}, api.Word{Name: one + letters[:30]}, api.Word{Name: letters[:30] + one})
		}
	}
	for flags := 4; flags < 256; flags++ {
		l = append(l, api.Word{Name: "flags", Flags: uint8(flags), Code: codeOf(2)})
	}
	for _, n := range []int{1001, 1002, 1023, 1024, 2000, 65535, 65536, 65537, 66536, 1 << 20} {
		l = append(l, api.Word{Name: "code", Code: make([]uint32, n)})
	}
	return append(l, api.Word{Name: "é"}, api.Word{Name: "two words"}, api.Word{Name: "tab\t"}, api.Word{Name: "a\x00"})
}

// defined are the bytes of a word by the chapter's Terms.
func defined(w api.Word) []byte {
	n := len(w.Code)
	b := []byte{byte(len(w.Name)), w.Flags, byte(n % 256), byte(n / 256)}
	b = slices.Concat(b, []byte(w.Name))
	for _, x := range w.Code {
		for range 4 {
			b = append(b, byte(x%256))
			x /= 256
		}
	}
	return b
}

func definedAll(l []api.Word) []byte {
	var b []byte
	for _, w := range l {
		b = slices.Concat(b, defined(w))
	}
	return b
}

func same(a, b api.Word) bool {
	return a.Name == b.Name && a.Flags == b.Flags && slices.Equal(a.Code, b.Code)
}

// copied returns words in memory of their own.
func copied(l []api.Word) []api.Word {
	m := slices.Clone(l)
	for i, w := range m {
		m[i] = api.Word{Name: strings.Clone(w.Name), Flags: w.Flags, Code: slices.Clone(w.Code)}
	}
	return m
}

func want[T comparable](t *testing.T, what string, got, wanted T) {
	t.Helper()
	if got != wanted {
		t.Errorf("%s: %v, want %v", what, got, wanted)
	}
}

func wantBytes(t *testing.T, what string, got, wanted []byte) {
	t.Helper()
	if !bytes.Equal(got, wanted) {
		t.Errorf("%s: %d bytes, of which the first ones are %d, want %d: %d", what, len(got), few(got), len(wanted), few(wanted))
	}
}

func wantWords(t *testing.T, what string, got, wanted []api.Word) {
	t.Helper()
	if len(got) != len(wanted) {
		t.Errorf("%s: %d words, want %d", what, len(got), len(wanted))
		return
	}
	for i, w := range wanted {
		if !same(got[i], w) {
			t.Errorf("%s: word %d: %q, flags %d, %d cells: %v, want %q, flags %d, %d cells: %v", what, i, got[i].Name, got[i].Flags, len(got[i].Code), few(got[i].Code), w.Name, w.Flags, len(w.Code), few(w.Code))
		}
	}
}

func few[T any](l []T) []T {
	return l[:min(len(l), 20)]
}

// encoded fails unless these words have bytes, and returns them.
func encoded(t *testing.T, l ...api.Word) []byte {
	t.Helper()
	b, e := image.Encode(l)
	want(t, "Encode", e, api.OK)
	return b
}

// wantDecoded fails unless b are the bytes of these words.
func wantDecoded(t *testing.T, what string, b []byte, wanted []api.Word) {
	t.Helper()
	l, e := image.Decode(b)
	want(t, what+": Decode", e, api.OK)
	wantWords(t, what+": Decode", l, wanted)
}

// wantNone fails unless b are no bytes of right words, and nothing is told of any.
func wantNone(t *testing.T, what string, b []byte) {
	t.Helper()
	l, e := image.Decode(b)
	want(t, what+": Decode", e, api.ErrWord)
	wantWords(t, what+": Decode", l, nil)
}

// wantRefused fails unless these words have no bytes, as one is not right.
func wantRefused(t *testing.T, what string, l ...api.Word) {
	t.Helper()
	b, e := image.Encode(l)
	want(t, what+": Encode", e, api.ErrWord)
	wantBytes(t, what+": Encode", b, nil)
}

// The chapter's examples.
func TestExamples(t *testing.T) {
	plus := api.Word{Name: "+", Flags: 1, Code: []uint32{7}}
	inBytes := []byte{1, 1, 1, 0, 43, 7, 0, 0, 0}
	want(t, "Size", image.Size(plus), 9)
	wantBytes(t, "Encode", encoded(t, plus), inBytes)
	wantDecoded(t, "+", inBytes, []api.Word{plus})
	wantNone(t, "+ without its last byte", inBytes[:8])
	want(t, "Alike of dup and DUP", image.Alike("dup", "DUP"), true)
	want(t, "Alike of [ and {", image.Alike("[", "{"), false)
	l := []api.Word{{Name: "DUP"}, {Name: "+"}, {Name: "Dup"}}
	want(t, "Find of dup", image.Find(l, "dup"), 2)
	want(t, "Find of x", image.Find(l, "x"), -1)
	for _, name := range []string{"a b", "", strings.Repeat("a", 32)} {
		wantRefused(t, name, api.Word{Name: name})
		wantNone(t, name, defined(api.Word{Name: name}))
	}
}
