package cell

import (
	"math"

	"lightship/api"
)

// Divide returns the remainder of a double cell, and the quotient, both unsigned.
func Divide(low, high, by uint32) (uint32, uint32, api.Throw) {
	if by == 0 {
		return 0, 0, api.ThrowDivide
	}
	d, n := double(low, high), uint64(by)
	if d/n > math.MaxUint32 {
		return 0, 0, api.ThrowRange
	}
	return uint32(d % n), uint32(d / n), api.ThrowNone
}

// Symmetric returns the remainder of a double cell, and the quotient, both signed: the remainder has the sign of the double cell.
func Symmetric(low uint32, high, by int32) (int32, int32, api.Throw) {
	never := func(remainder int64) bool { return false }
	return divided(low, high, by, never)
}

// Floored returns the remainder of a double cell, and the quotient, both signed: the remainder has the sign of by.
func Floored(low uint32, high, by int32) (int32, int32, api.Throw) {
	otherSign := func(remainder int64) bool { return remainder != 0 && (remainder < 0) != (by < 0) }
	return divided(low, high, by, otherSign)
}

// divided rounds a quotient towards 0, but takes one less where less says so of its remainder. Only then it is known whether the quotient is a cell's.
func divided(low uint32, high, by int32, less func(remainder int64) bool) (int32, int32, api.Throw) {
	if by == 0 {
		return 0, 0, api.ThrowDivide
	}
	d, n := int64(double(low, uint32(high))), int64(by)
	remainder, quotient := d%n, d/n // -2^63 by -1 is -2^63 again: no cell's number either
	if less(remainder) {
		remainder, quotient = remainder+n, quotient-1
	}
	if quotient < math.MinInt32 || quotient > math.MaxInt32 {
		return 0, 0, api.ThrowRange
	}
	return int32(remainder), int32(quotient), api.ThrowNone
}
