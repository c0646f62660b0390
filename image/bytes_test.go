package image_test

import (
	"slices"
	"testing"

	"lightship/api"
	"lightship/image"
)

// P10.1, P10.3: one word, at all edges: its bytes, and back.
func TestOneWord(t *testing.T) {
	for _, w := range rightWords() {
		b := encoded(t, w)
		wantBytes(t, "Encode", b, defined(w))
		want(t, "Size", image.Size(w), len(b))
		wantDecoded(t, w.Name, defined(w), []api.Word{w})
	}
}

// P10.1, P10.3: cells, the lowest byte first, by bytes that are written out.
func TestBytesOfCells(t *testing.T) {
	w := api.Word{Name: "ab", Flags: 2, Code: []uint32{0x04030201, 0, 4294967295, 0x80000000, 0x00ff0000}}
	b := []byte{2, 2, 5, 0, 97, 98, 1, 2, 3, 4, 0, 0, 0, 0, 255, 255, 255, 255, 0, 0, 0, 128, 0, 0, 255, 0}
	wantBytes(t, "Encode", encoded(t, w), b)
	wantDecoded(t, "cells", b, []api.Word{w})
}

// P10.1: the number of cells, the lower byte first.
func TestBytesOfCounts(t *testing.T) {
	for _, k := range []struct {
		n         int
		low, high byte
	}{{0, 0, 0}, {1, 1, 0}, {255, 255, 0}, {256, 0, 1}, {257, 1, 1}, {513, 1, 2}, {1000, 232, 3}} {
		b := encoded(t, api.Word{Name: "x", Code: make([]uint32, k.n)})
		wantBytes(t, "head", b[:4], []byte{1, 0, k.low, k.high})
		want(t, "bytes", len(b), 5+4*k.n)
	}
}

// P10.1 (R6): no words have no bytes, and no bytes no words.
func TestNoWords(t *testing.T) {
	wantBytes(t, "Encode", encoded(t), nil)
	wantBytes(t, "Encode", encoded(t, []api.Word{}...), nil)
	wantDecoded(t, "nil", nil, nil)
	wantDecoded(t, "no bytes", []byte{}, nil)
}

// P10.1, P10.3: many words, one after the other, those of the same name, and the same ones, too.
func TestManyWords(t *testing.T) {
	l := rightWords()
	l = slices.Concat(l, l[:9], l[40:60])
	wantBytes(t, "Encode", encoded(t, l...), definedAll(l))
	wantDecoded(t, "many", definedAll(l), l)
	short := slices.Repeat([]api.Word{{Name: "x", Flags: 1}}, 20000)
	wantDecoded(t, "many of the same", encoded(t, short...), short)
}

// P10.3: the bytes of two lists, one after the other, are those of both.
func TestTwoLists(t *testing.T) {
	l := rightWords()[:30]
	for i := range len(l) + 1 {
		first, second := encoded(t, l[:i]...), encoded(t, l[i:]...)
		wantBytes(t, "both", slices.Concat(first, second), encoded(t, l...))
		wantDecoded(t, "both", slices.Concat(first, second), l)
		wantDecoded(t, "the other way round", slices.Concat(second, first), slices.Concat(l[i:], l[:i]))
	}
}

// P10.3: different words have different bytes, also where they differ in one thing, or in where one ends.
func TestDifferentWords(t *testing.T) {
	l := []api.Word{
		{Name: "a"}, {Name: "A"}, {Name: "b"}, {Name: "aa"}, {Name: "a", Flags: 1}, {Name: "a", Flags: 2}, {Name: "a", Flags: 3},
		{Name: "a", Code: []uint32{0}}, {Name: "a", Code: []uint32{0, 0}}, {Name: "a", Code: []uint32{1}}, {Name: "a", Code: []uint32{256}}, {Name: "a", Code: []uint32{1 << 24}},
		{Name: "a", Code: []uint32{1, 2}}, {Name: "a", Code: []uint32{2, 1}}, {Name: "a!!!!"}, {Name: "a", Code: []uint32{0x21212121}}, {Name: "a!!!!", Code: []uint32{0x21212121}},
	}
	seen := map[string]int{}
	for i, w := range l {
		b := string(encoded(t, w))
		if j, ok := seen[b]; ok {
			t.Errorf("words %d and %d have the same bytes %d", j, i, []byte(b))
		}
		seen[b] = i
	}
}

// P10.1 (R2): one wrong word is enough, wherever it stands.
func TestOneWrongWordAmongRightOnes(t *testing.T) {
	right := rightWords()[:6]
	for _, w := range wrongWords() {
		for i := range len(right) + 1 {
			wantRefused(t, w.Name, slices.Insert(slices.Clone(right), i, w)...)
		}
		wantRefused(t, w.Name, w, w)
	}
}

// P10.1 (R3): the words stay as they are, and the bytes have memory of their own.
func TestBytesHaveMemoryOfTheirOwn(t *testing.T) {
	l := copied(rightWords())
	before := copied(l)
	b, again := encoded(t, l...), encoded(t, l...)
	wantWords(t, "encoded", l, before)
	for i := range b {
		b[i] ^= 255
	}
	_ = append(b, 1, 2, 3)
	wantBytes(t, "the second time", again, definedAll(before))
	wantWords(t, "with the bytes changed", l, before)
	l[0].Code[0] = 99
	l[1] = api.Word{}
	wantBytes(t, "with the words changed", again, definedAll(before))
}

// P10.1 (R3): the bytes stay as they are, and the words have memory of their own: names, code, and the list itself.
func TestWordsHaveMemoryOfTheirOwn(t *testing.T) {
	wanted := copied(rightWords())
	spare := []byte{9, 8, 7, 6, 5, 4, 3, 2}
	b := append(definedAll(wanted), spare...)
	given := b[:len(b)-len(spare)]
	before := slices.Clone(b)
	l, _ := image.Decode(given)
	again, _ := image.Decode(given)
	wantBytes(t, "decoded", b, before)
	for i := range l {
		for j := range l[i].Code {
			l[i].Code[j] ^= 1<<32 - 1
		}
		_ = append(l[i].Code, 1, 2, 3)
		wantWords(t, "the words behind a changed one", l[i+1:], wanted[i+1:])
		l[i] = api.Word{}
	}
	wantBytes(t, "with the words changed", b, before)
	clear(b)
	wantWords(t, "with the bytes changed", again, wanted)
	wantDecoded(t, "once more", before[:len(given)], wanted)
}
