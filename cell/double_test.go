package cell_test

import (
	"math"
	"math/big"
	"testing"

	"lightship/cell"
)

// cells is a double cell: low, high.
type cells = answer[uint32, uint32]

// number is the number of a double cell, by the chapter's Terms.
func number(low, high uint32) *big.Int {
	d := new(big.Int).Lsh(big.NewInt(int64(high)), 32)
	return d.Add(d, big.NewInt(int64(low)))
}

// signedNumber is the same, less 2^64 if that is 2^63 or more.
func signedNumber(low uint32, high int32) *big.Int {
	d := new(big.Int).Lsh(big.NewInt(int64(high)), 32)
	return d.Add(d, big.NewInt(int64(low)))
}

// cellsOf is the double cell of a number, modulo 2^64.
func cellsOf(d *big.Int) cells {
	power := new(big.Int).Lsh(big.NewInt(1), 64)
	n := new(big.Int).Mod(d, power).Uint64()
	return cells{a: uint32(n % (1 << 32)), b: uint32(n / (1 << 32))}
}

func product(a, b int64) cells {
	return cellsOf(new(big.Int).Mul(big.NewInt(a), big.NewInt(b)))
}

// signed is a signed double cell by its bits.
func signed(low uint32, high int32) cells {
	return cells{a: low, b: uint32(high)}
}

// someDoubles are double cells at the edges, and others.
func someDoubles() []cells {
	var l []cells
	for _, high := range someCells() {
		for _, low := range []uint32{0, 1, 2, 1<<31 - 1, 1 << 31, math.MaxUint32 - 1, math.MaxUint32, high, ^high} {
			l = append(l, pair(low, high))
		}
	}
	return l
}

// P7.2: the low cell first.
func TestProduct(t *testing.T) {
	for _, k := range []struct{ a, b, low, high uint32 }{
		{0, 0, 0, 0},
		{0, 4294967295, 0, 0},
		{1, 4294967295, 4294967295, 0},
		{6, 7, 42, 0},
		{65536, 65535, 4294901760, 0},
		{65536, 65536, 0, 1},
		{65537, 65537, 131073, 1},
		{2, 4294967295, 4294967294, 1},
		{2147483648, 2, 0, 1},
		{2147483648, 2147483648, 0, 1073741824},
		{2147483648, 4294967295, 2147483648, 2147483647},
		{0x12345678, 0x9abcdef0, 0x242d2080, 0x0b00ea4e},
	} {
		want(t, "Product", pair(cell.Product(k.a, k.b)), pair(k.low, k.high))
		want(t, "Product", pair(cell.Product(k.b, k.a)), pair(k.low, k.high))
	}
}

// P7.2: the least number of a cell, and the greatest one; signs that are alike, and unlike.
func TestSigned(t *testing.T) {
	for _, k := range []struct {
		a, b int32
		low  uint32
		high int32
	}{
		{0, 0, 0, 0},
		{0, -1, 0, 0},
		{0, math.MinInt32, 0, 0},
		{3, 5, 15, 0},
		{-3, -5, 15, 0},
		{3, -5, 4294967281, -1},
		{1, -1, 4294967295, -1},
		{-1, -1, 1, 0},
		{math.MinInt32, 1, 2147483648, -1},
		{math.MinInt32, -1, 2147483648, 0},
		{math.MinInt32, 2, 0, -1},
		{math.MinInt32, -2, 0, 1},
		{math.MinInt32, math.MinInt32, 0, 1073741824},
		{math.MinInt32, math.MaxInt32, 2147483648, -1073741824},
		{math.MaxInt32, math.MaxInt32, 1, 1073741823},
		{math.MaxInt32, -1, 2147483649, -1},
		{-65536, 65536, 0, -1},
		{-65537, 65536, 4294901760, -2},
	} {
		want(t, "Signed", pair(cell.Signed(k.a, k.b)), pair(k.low, k.high))
		want(t, "Signed", pair(cell.Signed(k.b, k.a)), pair(k.low, k.high))
	}
}

// P7.2: any two cells, as unsigned numbers and as signed ones.
func TestProductsOfAnyCells(t *testing.T) {
	for _, a := range someCells() {
		for _, b := range someCells() {
			want(t, "Product", pair(cell.Product(a, b)), product(int64(a), int64(b)))
			want(t, "Signed", signed(cell.Signed(int32(a), int32(b))), product(int64(int32(a)), int64(int32(b))))
		}
	}
}

// P7.2: what the low cells carry, and what is beyond 2^64.
func TestSum(t *testing.T) {
	for _, k := range []struct{ aLow, aHigh, bLow, bHigh, low, high uint32 }{
		{0, 0, 0, 0, 0, 0},
		{1, 2, 3, 4, 4, 6},
		{4294967295, 0, 1, 0, 0, 1},
		{4294967295, 5, 4294967295, 6, 4294967294, 12},
		{2147483648, 0, 2147483648, 0, 0, 1},
		{0, 4294967295, 0, 1, 0, 0},
		{4294967295, 4294967295, 1, 0, 0, 0},
		{4294967295, 4294967295, 0, 0, 4294967295, 4294967295},
		{4294967295, 4294967295, 4294967295, 4294967295, 4294967294, 4294967295},
		{0, 2147483648, 0, 2147483648, 0, 0},
		{4294967295, 2147483647, 1, 0, 0, 2147483648},
	} {
		want(t, "Sum", pair(cell.Sum(k.aLow, k.aHigh, k.bLow, k.bHigh)), pair(k.low, k.high))
		want(t, "Sum", pair(cell.Sum(k.bLow, k.bHigh, k.aLow, k.aHigh)), pair(k.low, k.high))
	}
	for _, a := range someDoubles() {
		for _, b := range someDoubles() {
			sum := new(big.Int).Add(number(a.a, a.b), number(b.a, b.b))
			want(t, "Sum", pair(cell.Sum(a.a, a.b, b.a, b.b)), cellsOf(sum))
		}
	}
}

// P7.2: 0, and the least number of a double cell, are their own negatives.
func TestNegative(t *testing.T) {
	for _, k := range []struct{ low, high, nLow, nHigh uint32 }{
		{0, 0, 0, 0},
		{1, 0, 4294967295, 4294967295},
		{4294967295, 4294967295, 1, 0},
		{0, 1, 0, 4294967295},
		{0, 4294967295, 0, 1},
		{4294967295, 0, 1, 4294967295},
		{1, 4294967295, 4294967295, 0},
		{0, 2147483648, 0, 2147483648},
		{1, 2147483648, 4294967295, 2147483647},
		{2147483648, 0, 2147483648, 4294967295},
	} {
		want(t, "Negative", pair(cell.Negative(k.low, k.high)), pair(k.nLow, k.nHigh))
	}
	for _, d := range someDoubles() {
		n := pair(cell.Negative(d.a, d.b))
		want(t, "Negative", n, cellsOf(new(big.Int).Neg(number(d.a, d.b))))
		want(t, "the sum with its negative", pair(cell.Sum(d.a, d.b, n.a, n.b)), cells{})
		want(t, "Negative, twice", pair(cell.Negative(n.a, n.b)), d)
	}
}
