package cell_test

import (
	"math"
	"math/big"
	"testing"

	"lightship/api"
	"lightship/cell"
)

// results are a remainder, a quotient, and a throw.
type results = answer[int32, int32]

// signedDivision is Symmetric, or Floored, as the chapter tells of it, by whole numbers of any size.
type signedDivision struct {
	name  string
	call  func(low uint32, high, by int32) (int32, int32, api.Throw)
	model func(d, by *big.Int) (remainder, quotient *big.Int)
}

func bothDivisions() []signedDivision {
	return []signedDivision{
		{"Symmetric", cell.Symmetric, symmetric},
		{"Floored", cell.Floored, floored},
	}
}

// symmetric divides the absolute values, and gives the signs then.
func symmetric(d, by *big.Int) (*big.Int, *big.Int) {
	quotient, remainder := new(big.Int).QuoRem(new(big.Int).Abs(d), new(big.Int).Abs(by), new(big.Int))
	if (d.Sign() < 0) != (by.Sign() < 0) {
		quotient.Neg(quotient)
	}
	if d.Sign() < 0 {
		remainder.Neg(remainder)
	}
	return remainder, quotient
}

// floored steps from some quotient to the greatest one that is not greater than the exact one: that is, whose rest is on the side of by, and less.
func floored(d, by *big.Int) (*big.Int, *big.Int) {
	quotient := new(big.Int).Quo(d, by)
	for step := int64(2); step >= -2; step-- {
		q := new(big.Int).Add(quotient, big.NewInt(step))
		rest := new(big.Int).Sub(d, new(big.Int).Mul(q, by))
		if rest.Sign() == 0 || rest.Sign() == by.Sign() {
			return rest, q
		}
	}
	panic("no quotient")
}

// wanted is what a division by the chapter's words has to return.
func wanted(model func(d, by *big.Int) (*big.Int, *big.Int), low uint32, high, by int32) results {
	if by == 0 {
		return results{e: api.ThrowDivide}
	}
	remainder, quotient := model(signedNumber(low, high), big.NewInt(int64(by)))
	if !quotient.IsInt64() || quotient.Int64() < math.MinInt32 || quotient.Int64() > math.MaxInt32 {
		return results{e: api.ThrowRange}
	}
	return results{int32(remainder.Int64()), int32(quotient.Int64()), api.ThrowNone}
}

// someDivisors are cells at the edges, as signed numbers, but not 0.
func someDivisors() []int32 {
	var l []int32
	for _, x := range someCells() {
		if x != 0 {
			l = append(l, int32(x))
		}
	}
	return l
}

// parts are the cells of a signed number.
func parts(d int64) (uint32, int32) {
	return uint32(d), int32(d >> 32)
}

// P7.3: unsigned numbers, whose quotient just is one of a cell, or just is not.
func TestDivide(t *testing.T) {
	for _, k := range []struct {
		low, high, by       uint32
		remainder, quotient uint32
		e                   api.Throw
	}{
		{0, 0, 1, 0, 0, 0},
		{0, 0, 4294967295, 0, 0, 0},
		{6, 0, 2, 0, 3, 0},
		{1, 0, 2, 1, 0, 0},
		{4294967295, 0, 1, 0, 4294967295, 0},
		{0, 1, 1, 0, 0, api.ThrowRange},
		{4294967295, 1, 2, 1, 4294967295, 0},
		{0, 2, 2, 0, 0, api.ThrowRange},
		{4294967295, 2147483646, 2147483647, 2147483646, 4294967295, 0},
		{0, 2147483647, 2147483647, 0, 0, api.ThrowRange},
		{4294967295, 2147483647, 2147483648, 2147483647, 4294967295, 0},
		{0, 2147483648, 2147483648, 0, 0, api.ThrowRange},
		{4294967295, 4294967294, 4294967295, 4294967294, 4294967295, 0},
		{1, 4294967294, 4294967295, 0, 4294967295, 0},
		{0, 4294967294, 4294967295, 4294967294, 4294967294, 0},
		{0, 4294967295, 4294967295, 0, 0, api.ThrowRange},
		{4294967295, 4294967295, 4294967295, 0, 0, api.ThrowRange},
		{4294967295, 4294967295, 1, 0, 0, api.ThrowRange},
		{0, 1, 4294967295, 1, 1, 0},
		{0, 1, 10, 6, 429496729, 0},
		{4294967289, 0, 4294967295, 4294967289, 0, 0},
		{0, 0, 0, 0, 0, api.ThrowDivide},
		{4294967295, 4294967295, 0, 0, 0, api.ThrowDivide},
	} {
		want(t, "Divide", got(cell.Divide(k.low, k.high, k.by)), got(k.remainder, k.quotient, k.e))
	}
}

// P7.3: any double cell, by any cell.
func TestDivideAny(t *testing.T) {
	for _, d := range someDoubles() {
		for _, by := range someCells() {
			w := cells{e: api.ThrowDivide}
			if by != 0 {
				quotient, remainder := new(big.Int).QuoRem(number(d.a, d.b), number(by, 0), new(big.Int))
				w = cells{e: api.ThrowRange}
				if quotient.BitLen() <= 32 {
					w = cells{uint32(remainder.Uint64()), uint32(quotient.Uint64()), api.ThrowNone}
				}
			}
			want(t, "Divide", got(cell.Divide(d.a, d.b, by)), w)
		}
	}
}

// P7.3: signs that are alike, and unlike; remainders that are 0, and that are not.
func TestSigns(t *testing.T) {
	for _, k := range []struct {
		d                  int64
		by                 int32
		symmetric, floored results
	}{
		{7, 2, results{1, 3, 0}, results{1, 3, 0}},
		{-7, 2, results{-1, -3, 0}, results{1, -4, 0}},
		{7, -2, results{1, -3, 0}, results{-1, -4, 0}},
		{-7, -2, results{-1, 3, 0}, results{-1, 3, 0}},
		{6, 2, results{0, 3, 0}, results{0, 3, 0}},
		{-6, 2, results{0, -3, 0}, results{0, -3, 0}},
		{6, -2, results{0, -3, 0}, results{0, -3, 0}},
		{-6, -2, results{0, 3, 0}, results{0, 3, 0}},
		{1, 5, results{1, 0, 0}, results{1, 0, 0}},
		{-1, 5, results{-1, 0, 0}, results{4, -1, 0}},
		{1, -5, results{1, 0, 0}, results{-4, -1, 0}},
		{-1, -5, results{-1, 0, 0}, results{-1, 0, 0}},
		{0, 5, results{}, results{}},
		{0, -5, results{}, results{}},
		{0, math.MinInt32, results{}, results{}},
		{1 << 32, 10, results{6, 429496729, 0}, results{6, 429496729, 0}},
		{-1 << 32, 10, results{-6, -429496729, 0}, results{4, -429496730, 0}},
	} {
		low, high := parts(k.d)
		want(t, "Symmetric", got(cell.Symmetric(low, high, k.by)), k.symmetric)
		want(t, "Floored", got(cell.Floored(low, high, k.by)), k.floored)
	}
}

// P7.3: quotients that just are a signed number of a cell, or just are not; the least numbers of a cell, and of a double cell.
func TestRange(t *testing.T) {
	none := results{e: api.ThrowRange}
	for _, k := range []struct {
		d                  int64
		by                 int32
		symmetric, floored results
	}{
		{1<<31 - 1, 1, results{0, 1<<31 - 1, 0}, results{0, 1<<31 - 1, 0}},
		{1 << 31, 1, none, none},
		{-1 << 31, 1, results{0, -1 << 31, 0}, results{0, -1 << 31, 0}},
		{-1<<31 - 1, 1, none, none},
		{1 << 31, -1, results{0, -1 << 31, 0}, results{0, -1 << 31, 0}},
		{1<<31 + 1, -1, none, none},
		{-1<<31 + 1, -1, results{0, 1<<31 - 1, 0}, results{0, 1<<31 - 1, 0}},
		{-1 << 31, -1, none, none},
		{1<<32 - 1, 2, results{1, 1<<31 - 1, 0}, results{1, 1<<31 - 1, 0}},
		{1 << 32, 2, none, none},
		{-1 << 32, 2, results{0, -1 << 31, 0}, results{0, -1 << 31, 0}},
		{-1<<32 + 1, 2, results{-1, -1<<31 + 1, 0}, results{1, -1 << 31, 0}},
		{-1<<32 - 1, 2, results{-1, -1 << 31, 0}, none},
		{-1<<32 - 2, 2, none, none},
		{1<<32 + 1, -2, results{1, -1 << 31, 0}, none},
		{1<<32 + 2, -2, none, none},
		{1 << 62, -1 << 31, results{0, -1 << 31, 0}, results{0, -1 << 31, 0}},
		{1<<62 + 1, -1 << 31, results{1, -1 << 31, 0}, none},
		{1<<62 + 1<<31 - 1, -1 << 31, results{1<<31 - 1, -1 << 31, 0}, none},
		{1<<62 + 1<<31, -1 << 31, none, none},
		{-1 << 62, -1 << 31, none, none},
		{-1<<62 + 1, -1 << 31, results{-1<<31 + 1, 1<<31 - 1, 0}, results{-1<<31 + 1, 1<<31 - 1, 0}},
		{-1 << 31, -1 << 31, results{0, 1, 0}, results{0, 1, 0}},
		{math.MinInt64, 1, none, none},
		{math.MinInt64, -1, none, none},
		{math.MinInt64, 2, none, none},
		{math.MinInt64, -2, none, none},
		{math.MinInt64, 3, none, none},
		{math.MinInt64, math.MinInt32, none, none},
		{math.MinInt64, math.MaxInt32, none, none},
		{math.MaxInt64, 1, none, none},
		{math.MaxInt64, -1, none, none},
		{math.MaxInt64, math.MinInt32, none, none},
		{math.MaxInt64, math.MaxInt32, none, none},
	} {
		low, high := parts(k.d)
		want(t, "Symmetric", got(cell.Symmetric(low, high, k.by)), k.symmetric)
		want(t, "Floored", got(cell.Floored(low, high, k.by)), k.floored)
	}
}

// P7.3: a division by 0, whatever is divided; both numbers are 0 then, as they are with a quotient that is out of range.
func TestDivisionBy0(t *testing.T) {
	for _, d := range someDoubles() {
		want(t, "Divide by 0", got(cell.Divide(d.a, d.b, 0)), cells{e: -10})
		want(t, "Symmetric by 0", got(cell.Symmetric(d.a, int32(d.b), 0)), results{e: -10})
		want(t, "Floored by 0", got(cell.Floored(d.a, int32(d.b), 0)), results{e: -10})
	}
}

// P7.3: any double cell, by any cell.
func TestSignedDivisionsOfAny(t *testing.T) {
	for _, x := range bothDivisions() {
		for _, d := range someDoubles() {
			for _, by := range someDivisors() {
				want(t, x.name, got(x.call(d.a, int32(d.b), by)), wanted(x.model, d.a, int32(d.b), by))
			}
		}
	}
}

// P7.3: all small numbers, by all small ones, and 0.
func TestSmallNumbers(t *testing.T) {
	for _, x := range bothDivisions() {
		for d := int64(-130); d <= 130; d++ {
			for by := int32(-20); by <= 20; by++ {
				low, high := parts(d)
				want(t, x.name, got(x.call(low, high, by)), wanted(x.model, low, high, by))
			}
		}
	}
}

// P7.3: for each divisor, all around the least and the greatest quotient of a cell, and around 0.
func TestQuotientsAtTheEdges(t *testing.T) {
	quotients := []int64{math.MinInt32 - 2, math.MinInt32 - 1, math.MinInt32, math.MinInt32 + 1, -2, -1, 0, 1, 2, math.MaxInt32 - 1, math.MaxInt32, math.MaxInt32 + 1}
	for _, by := range someDivisors() {
		n := max(int64(by), -int64(by))
		for _, quotient := range quotients {
			for _, rest := range []int64{-n - 1, -n, 1 - n, -n / 2, -1, 0, 1, n / 2, n - 1, n, n + 1} {
				low, high := parts(quotient*int64(by) + rest) // at most some 2^62 + 2^33: it does not wrap round
				for _, x := range bothDivisions() {
					want(t, x.name, got(x.call(low, high, by)), wanted(x.model, low, high, by))
				}
			}
		}
	}
}

// P7.4: quotient times divisor plus remainder is the dividend, and the remainder is less than the divisor, by absolute values.
func TestDividendComesBack(t *testing.T) {
	back := func(what string, d, remainder, quotient, by *big.Int) {
		t.Helper()
		again := new(big.Int).Mul(quotient, by)
		if again.Add(again, remainder).Cmp(d) != 0 || remainder.CmpAbs(by) >= 0 {
			t.Errorf("%s of %v by %v: remainder %v, quotient %v", what, d, by, remainder, quotient)
		}
	}
	counted := 0
	for _, d := range someDoubles() {
		for _, by := range someDivisors() {
			if remainder, quotient, e := cell.Divide(d.a, d.b, uint32(by)); e == api.ThrowNone {
				counted++
				back("Divide", number(d.a, d.b), number(remainder, 0), number(quotient, 0), number(uint32(by), 0))
			}
			for _, x := range bothDivisions() {
				if remainder, quotient, e := x.call(d.a, int32(d.b), by); e == api.ThrowNone {
					counted++
					back(x.name, signedNumber(d.a, int32(d.b)), big.NewInt(int64(remainder)), big.NewInt(int64(quotient)), big.NewInt(int64(by)))
				}
			}
		}
	}
	if counted < 10000 {
		t.Errorf("no more than %d divisions had a quotient", counted)
	}
}

// P7.4: both signed divisions are the same where the remainder is 0, or the signs are; else the quotient of Floored is one less.
func TestBothDivisions(t *testing.T) {
	same, less := 0, 0
	for _, d := range someDoubles() {
		for _, by := range someDivisors() {
			one, two := got(cell.Symmetric(d.a, int32(d.b), by)), got(cell.Floored(d.a, int32(d.b), by))
			if one.e != api.ThrowNone || two.e != api.ThrowNone {
				continue
			}
			if one.a == 0 || (int32(d.b) < 0) == (by < 0) {
				same++
				want(t, "Floored, as Symmetric", two, one)
			} else {
				less++
				want(t, "Floored, one less than Symmetric", two, results{one.a + by, one.b - 1, 0})
			}
		}
	}
	if same < 1000 || less < 1000 {
		t.Errorf("no more than %d divisions were to be the same, and %d one less", same, less)
	}
}

// P7.3, P7.4: the remainder has the sign of the double cell, or of by.
func TestSignsOfRemainders(t *testing.T) {
	for _, d := range someDoubles() {
		for _, by := range someDivisors() {
			if remainder, _, e := cell.Symmetric(d.a, int32(d.b), by); e == api.ThrowNone && remainder != 0 {
				want(t, "below 0, as the double cell", remainder < 0, int32(d.b) < 0)
			}
			if remainder, _, e := cell.Floored(d.a, int32(d.b), by); e == api.ThrowNone && remainder != 0 {
				want(t, "below 0, as the divisor", remainder < 0, by < 0)
			}
		}
	}
}

// P7.2, P7.3: what is multiplied comes back by a division.
func TestProductsAreDivided(t *testing.T) {
	for _, a := range someCells() {
		for _, b := range someDivisors() {
			low, high := cell.Product(a, uint32(b))
			want(t, "Divide of a product", got(cell.Divide(low, high, uint32(b))), cells{0, a, 0})
			for _, x := range bothDivisions() {
				low, high := cell.Signed(int32(a), b)
				want(t, x.name+" of a product", got(x.call(low, high, b)), results{0, int32(a), 0})
			}
		}
	}
}
