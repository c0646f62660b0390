package plain

import (
	"lightship/api"
	"lightship/cell"
)

// ofTwo returns the effect of those that make one cell of two; and of the only one that makes it of three.
func ofTwo(name string) effect {
	if name == "WITHIN" {
		return within
	}
	become := two(name)
	if become == nil {
		return nil
	}
	return func(taken []uint32) ([]uint32, api.Throw) {
		return []uint32{become(taken[0], taken[1])}, api.ThrowNone
	}
}

// within holds both against the same end, as a range may go on behind the greatest cell.
func within(taken []uint32) ([]uint32, api.Throw) {
	x, low, high := taken[0], taken[1], taken[2]
	return []uint32{cell.Flag(x-low < high-low)}, api.ThrowNone
}

// two tells what two cells become.
func two(name string) func(x, y uint32) uint32 {
	switch name {
	case "+":
		return func(x, y uint32) uint32 { return x + y }
	case "-":
		return func(x, y uint32) uint32 { return x - y }
	case "*":
		return func(x, y uint32) uint32 { return x * y }
	case "MIN":
		return func(x, y uint32) uint32 { return uint32(min(int32(x), int32(y))) }
	case "MAX":
		return func(x, y uint32) uint32 { return uint32(max(int32(x), int32(y))) }
	case "AND":
		return func(x, y uint32) uint32 { return x & y }
	case "OR":
		return func(x, y uint32) uint32 { return x | y }
	case "XOR":
		return func(x, y uint32) uint32 { return x ^ y }
	case "LSHIFT":
		return func(x, y uint32) uint32 { return cell.Shift(x, y, true) }
	case "RSHIFT":
		return func(x, y uint32) uint32 { return cell.Shift(x, y, false) }
	case "=":
		return func(x, y uint32) uint32 { return cell.Flag(x == y) }
	case "<>":
		return func(x, y uint32) uint32 { return cell.Flag(x != y) }
	case "<":
		return func(x, y uint32) uint32 { return cell.Flag(int32(x) < int32(y)) }
	case ">":
		return func(x, y uint32) uint32 { return cell.Flag(int32(x) > int32(y)) }
	case "U<":
		return func(x, y uint32) uint32 { return cell.Flag(x < y) }
	case "U>":
		return func(x, y uint32) uint32 { return cell.Flag(x > y) }
	}
	return nil
}
