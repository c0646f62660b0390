package plain

import (
	"lightship/api"
	"lightship/cell"
)

// divided returns the effect of those that divide: most of them give the remainder, and the quotient upon it, or one of both.
func divided(name string) effect {
	switch name {
	case "/":
		return func(c []uint32) ([]uint32, api.Throw) { return quotient(floored(c[0], sign(c[0]), c[1])) }
	case "MOD":
		return func(c []uint32) ([]uint32, api.Throw) { return remainder(floored(c[0], sign(c[0]), c[1])) }
	case "/MOD":
		return func(c []uint32) ([]uint32, api.Throw) { return floored(c[0], sign(c[0]), c[1]) }
	case "*/":
		return func(c []uint32) ([]uint32, api.Throw) { return quotient(scaled(c[0], c[1], c[2])) }
	case "*/MOD":
		return func(c []uint32) ([]uint32, api.Throw) { return scaled(c[0], c[1], c[2]) }
	case "UM/MOD":
		return func(c []uint32) ([]uint32, api.Throw) { return both(cell.Divide(c[0], c[1], c[2])) }
	case "FM/MOD":
		return func(c []uint32) ([]uint32, api.Throw) { return floored(c[0], c[1], c[2]) }
	case "SM/REM":
		return func(c []uint32) ([]uint32, api.Throw) { return both(cell.Symmetric(c[0], int32(c[1]), int32(c[2]))) }
	}
	return nil
}

// doubled returns the effect of those that give double cells, which have their high cell on top.
func doubled(name string) effect {
	switch name {
	case "UM*":
		return func(c []uint32) ([]uint32, api.Throw) { return double(cell.Product(c[0], c[1])) }
	case "M*":
		return func(c []uint32) ([]uint32, api.Throw) { return double(cell.Signed(int32(c[0]), int32(c[1]))) }
	case "S>D":
		return func(c []uint32) ([]uint32, api.Throw) { return double(c[0], sign(c[0])) }
	case "D+":
		return func(c []uint32) ([]uint32, api.Throw) { return double(cell.Sum(c[0], c[1], c[2], c[3])) }
	case "DNEGATE":
		return func(c []uint32) ([]uint32, api.Throw) { return double(cell.Negative(c[0], c[1])) }
	}
	return nil
}

// sign returns the high cell of the double cell that is the same signed number.
func sign(x uint32) uint32 {
	return cell.Flag(int32(x) < 0)
}

// floored divides a signed double cell, and rounds down.
func floored(low, high, by uint32) ([]uint32, api.Throw) {
	return both(cell.Floored(low, int32(high), int32(by)))
}

// scaled divides the product of two signed cells, and rounds down.
func scaled(x, y, by uint32) ([]uint32, api.Throw) {
	low, high := cell.Signed(int32(x), int32(y))
	return floored(low, uint32(high), by)
}

func both[N int32 | uint32](rest, quotient N, t api.Throw) ([]uint32, api.Throw) {
	return []uint32{uint32(rest), uint32(quotient)}, t
}

func remainder(pair []uint32, t api.Throw) ([]uint32, api.Throw) {
	return pair[:1], t
}

func quotient(pair []uint32, t api.Throw) ([]uint32, api.Throw) {
	return pair[1:], t
}

func double[N int32 | uint32](low uint32, high N) ([]uint32, api.Throw) {
	return []uint32{low, uint32(high)}, api.ThrowNone
}
