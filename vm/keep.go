package vm

import "lightship/api"

// keep does those that put data into RAM, one behind the other, and those that tell where something is there.
func (v *Machine) keep(n uint32, taken []uint32) api.Throw {
	switch n {
	case numHere:
		return v.data.Push(v.here)
	case numAllot:
		return v.moveHere(v.here + taken[0])
	case numComma:
		return v.stored(size, v.memory.Store(v.here, taken[0]))
	case numByteComma:
		return v.stored(1, v.memory.SetByte(v.here, byte(taken[0])))
	case numAlign:
		return v.moveHere((v.here + size - 1) / size * size)
	case numBase:
		return v.data.Push(api.BaseAt)
	case numState:
		return v.data.Push(api.StateAt)
	}
	return api.ThrowNone
}

// moveHere makes here another address, of RAM or immediately behind it.
func (v *Machine) moveHere(at uint32) api.Throw {
	if _, t := v.memory.Bytes(at, 0); t != api.ThrowNone || at < api.DataAt { // no bytes at all are there in RAM, and immediately behind it, too
		return api.ThrowDict
	}
	v.here = at
	return api.ThrowNone
}

// stored moves here behind so many bytes that were stored there, unless storing them threw.
func (v *Machine) stored(n uint32, t api.Throw) api.Throw {
	switch t {
	case api.ThrowNone:
		v.here += n
	case api.ThrowMemory: // here is in RAM, or immediately behind it
		return api.ThrowDict
	}
	return t
}
