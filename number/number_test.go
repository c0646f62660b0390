package number_test

import (
	"math"
	"testing"

	"lightship/number"
)

const greatest = math.MaxUint32

func want[T comparable](t *testing.T, what string, got, wanted T) {
	t.Helper()
	if got != wanted {
		t.Errorf("%s: %v, want %v", what, got, wanted)
	}
}

// numbers returns a row of numbers that look random, and are the same each time.
func numbers(seed uint32) func() uint32 {
	return func() uint32 {
		seed ^= seed << 13
		seed ^= seed >> 17
		seed ^= seed << 5
		return seed
	}
}

// value is what Digit returned.
type value struct {
	n  uint32
	ok bool
}

func digit(n uint32, ok bool) value {
	return value{n, ok}
}

// read is what Read returned.
type read struct {
	low, high  uint32
	double, ok bool
}

func reading(low, high uint32, double, ok bool) read {
	return read{low, high, double, ok}
}

func single(low uint32) read {
	return read{low, 0, false, true}
}

func double(low, high uint32) read {
	return read{low, high, true, true}
}

// step is what Step returned.
type step struct {
	low, high uint32
	digit     byte
	ok        bool
}

func stepping(low, high uint32, digit byte, ok bool) step {
	return step{low, high, digit, ok}
}

// text is what Text returned.
type text struct {
	s  string
	ok bool
}

func writing(s string, ok bool) text {
	return text{s, ok}
}

// someBases are all bases, and others that are none.
func someBases() []uint32 {
	bases := []uint32{0, 1, 37, 38, 256 + 10, 1 << 16, 1 << 31, greatest - 1, greatest}
	for base := uint32(2); base <= 36; base++ {
		bases = append(bases, base)
	}
	return bases
}

func isBase(base uint32) bool {
	return 2 <= base && base <= 36
}

// someDoubles are low and high cells at the edges, and others.
func someDoubles() [][2]uint32 {
	edges := []uint32{0, 1, 2, 9, 10, 35, 36, 255, 1<<31 - 1, 1 << 31, 1<<31 + 1, greatest - 1, greatest}
	next := numbers(13)
	for range 5 {
		edges = append(edges, next())
	}
	var doubles [][2]uint32
	for _, low := range edges {
		for _, high := range edges {
			doubles = append(doubles, [2]uint32{low, high})
		}
	}
	return doubles
}

// The chapter's examples, text by text.
func TestExamples(t *testing.T) {
	for _, k := range []struct {
		s    string
		base uint32
		want read
	}{
		{"12", 10, single(12)},
		{"-1", 10, single(4294967295)},
		{"ff", 16, single(255)},
		{"$FF", 10, single(255)},
		{"%-101", 10, single(4294967291)},
		{"7.", 10, double(7, 0)},
		{"'A'", 10, single(65)},
		{"", 10, read{}},
		{"-", 10, read{}},
		{"12", 2, read{}},
		{"4294967296", 10, read{}},
		{"1.2", 10, read{}},
		{"$", 10, read{}},
		{"- 1", 10, read{}},
	} {
		want(t, "Read of "+k.s, reading(number.Read(k.s, k.base)), k.want)
	}
	want(t, "Text of 255 in 16", writing(number.Text(255, 0, 16, false)), text{"FF", true})
	want(t, "Text of the greatest one, signed", writing(number.Text(greatest, greatest, 10, true)), text{"-1", true})
	want(t, "Text of 0", writing(number.Text(0, 0, 10, false)), text{"0", true})
	want(t, "Step of 12 in 10", stepping(number.Step(12, 0, 10)), step{1, 0, '2', true})
}
