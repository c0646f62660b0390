package plain

import (
	"lightship/api"
	"lightship/cell"
)

// size is how many bytes a cell has.
const size = 4

// ofOne returns the effect of those that make one cell of one.
func ofOne(name string) effect {
	becomes := one(name)
	if becomes == nil {
		return nil
	}
	return func(taken []uint32) ([]uint32, api.Throw) {
		return []uint32{becomes(taken[0])}, api.ThrowNone
	}
}

// one tells what one cell becomes.
func one(name string) func(x uint32) uint32 {
	switch name {
	case "1+", "CHAR+":
		return func(x uint32) uint32 { return x + 1 }
	case "1-":
		return func(x uint32) uint32 { return x - 1 }
	case "2*":
		return func(x uint32) uint32 { return x * 2 }
	case "2/":
		return func(x uint32) uint32 { return uint32(int32(x) >> 1) }
	case "NEGATE":
		return func(x uint32) uint32 { return -x }
	case "ABS":
		return func(x uint32) uint32 { return uint32(max(int32(x), -int32(x))) } // the least number has no other sign: both are itself
	case "INVERT":
		return func(x uint32) uint32 { return ^x }
	case "0=":
		return func(x uint32) uint32 { return cell.Flag(x == 0) }
	case "0<":
		return func(x uint32) uint32 { return cell.Flag(int32(x) < 0) }
	case "0>":
		return func(x uint32) uint32 { return cell.Flag(int32(x) > 0) }
	case "CELL+":
		return func(x uint32) uint32 { return x + size }
	case "CELLS":
		return func(x uint32) uint32 { return x * size }
	case "CHARS":
		return func(x uint32) uint32 { return x }
	case "ALIGNED":
		return func(x uint32) uint32 { return (x + size - 1) / size * size }
	}
	return nil
}
