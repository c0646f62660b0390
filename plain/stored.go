package plain

import "lightship/api"

// stored returns the effect of those that read memory, or write to it.
func (k machine) stored(name string) effect {
	switch name {
	case "@":
		return func(c []uint32) ([]uint32, api.Throw) { return single(k.memory.Load(c[0])) }
	case "C@":
		return func(c []uint32) ([]uint32, api.Throw) { return single(k.memory.Byte(c[0])) }
	case "2@":
		return func(c []uint32) ([]uint32, api.Throw) { return k.loadTwo(c[0]) }
	case "COUNT":
		return func(c []uint32) ([]uint32, api.Throw) { return k.count(c[0]) }
	case "!":
		return func(c []uint32) ([]uint32, api.Throw) { return nil, k.memory.Store(c[1], c[0]) }
	case "C!":
		return func(c []uint32) ([]uint32, api.Throw) { return nil, k.memory.SetByte(c[1], byte(c[0])) }
	case "+!":
		return func(c []uint32) ([]uint32, api.Throw) { return nil, k.add(c[1], c[0]) }
	case "2!":
		return func(c []uint32) ([]uint32, api.Throw) { return nil, k.storeTwo(c[2], c[1], c[0]) }
	case "MOVE":
		return func(c []uint32) ([]uint32, api.Throw) { return nil, k.memory.Move(c[0], c[1], c[2]) }
	case "FILL":
		return func(c []uint32) ([]uint32, api.Throw) { return nil, k.memory.Fill(c[0], c[1], byte(c[2])) }
	}
	return nil
}

// loadTwo gives the cell at an address uppermost, and the next one below it.
func (k machine) loadTwo(at uint32) ([]uint32, api.Throw) {
	first, t := k.memory.Load(at)
	if t != api.ThrowNone {
		return nil, t
	}
	second, t := k.memory.Load(at + size)
	return []uint32{second, first}, t
}

// count gives the address behind a byte, and the byte.
func (k machine) count(at uint32) ([]uint32, api.Throw) {
	n, t := k.memory.Byte(at)
	return []uint32{at + 1, uint32(n)}, t
}

// add increases the cell at an address.
func (k machine) add(at, n uint32) api.Throw {
	x, t := k.memory.Load(at)
	if t != api.ThrowNone {
		return t
	}
	return k.memory.Store(at, x+n)
}

// storeTwo makes two cells first and second; both are tried ahead, as otherwise the first one would be another when the second one can't be.
func (k machine) storeTwo(at, first, second uint32) api.Throw {
	for _, place := range []uint32{at, at + size} {
		if t := k.add(place, 0); t != api.ThrowNone {
			return t
		}
	}
	k.memory.Store(at, first)
	return k.memory.Store(at+size, second)
}
