package plain

import "lightship/api"

// stacked returns the effect of those that work on a stack as such: on cells deeper in the data stack, and on the return stack.
func (k machine) stacked(name string) effect {
	switch name {
	case "?DUP":
		return func(c []uint32) ([]uint32, api.Throw) { return twiceUnlessZero(c[0]), api.ThrowNone }
	case "DEPTH":
		return func(c []uint32) ([]uint32, api.Throw) { return []uint32{uint32(k.data.Len())}, api.ThrowNone }
	case "PICK":
		return func(c []uint32) ([]uint32, api.Throw) { return single(k.data.Peek(below(c[0]))) }
	case "ROLL":
		return func(c []uint32) ([]uint32, api.Throw) { return nil, k.roll(c[0]) }
	case ">R":
		return func(c []uint32) ([]uint32, api.Throw) { return nil, k.back.Push(c[0]) }
	case "R>":
		return func(c []uint32) ([]uint32, api.Throw) { return single(k.back.Pop()) }
	case "R@":
		return func(c []uint32) ([]uint32, api.Throw) { return single(k.back.Peek(0)) }
	}
	return nil
}

func twiceUnlessZero(x uint32) []uint32 {
	if x == 0 {
		return []uint32{x}
	}
	return []uint32{x, x}
}

// roll brings the u-th cell below the number u directly below it.
func (k machine) roll(u uint32) api.Throw {
	if t := k.data.Roll(below(u)); t != api.ThrowNone {
		return t
	}
	return k.data.Roll(1) // the number comes back on top, where it is taken from
}

// below returns where the u-th cell below the top one is, as it is counted from the top. (No stack has more cells than that, and so it fits in any int.)
func below(u uint32) int {
	return int(min(u, api.MaxStack)) + 1
}

func single[N byte | uint32](x N, t api.Throw) ([]uint32, api.Throw) {
	return []uint32{uint32(x)}, t
}
