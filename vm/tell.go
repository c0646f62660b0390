package vm

import (
	"bytes"

	"lightship/api"
)

// tell does those that have texts, and those that write.
func (v *Machine) tell(in instruction, taken []uint32) api.Throw {
	switch in.number {
	case numText:
		return v.data.Push(v.textAt(in), in.operands[0])
	case numTellText:
		return v.writeFrom(v.textAt(in), in.operands[0])
	case numEmit:
		return v.write(byte(taken[0]))
	case numType:
		return v.writeFrom(taken[0], taken[1])
	case numCr:
		return v.write('\n')
	case numSpace:
		return v.write(' ')
	case numSpaces:
		return v.writeBlanks(int32(taken[0]))
	}
	return api.ThrowNone
}

// textAt returns the address of the text behind the instruction that is executed now: its cells are those ahead of the next one.
func (v *Machine) textAt(in instruction) uint32 {
	cells := len(in.operands) - 1
	return v.words[v.at.word].cells + uint32(size*(v.at.start-cells))
}

// write writes all of these bytes, or none.
func (v *Machine) write(b ...byte) api.Throw {
	if len(b) > api.MaxOut-len(v.out) {
		return api.ThrowOut
	}
	v.out = append(v.out, b...)
	return api.ThrowNone
}

// writeFrom writes n bytes of memory.
func (v *Machine) writeFrom(at, n uint32) api.Throw {
	b, t := v.memory.Bytes(at, n)
	if t != api.ThrowNone {
		return t
	}
	return v.write(b...)
}

// writeBlanks makes no more of them than are too many in any case.
func (v *Machine) writeBlanks(n int32) api.Throw {
	n = min(max(n, 0), api.MaxOut+1)
	return v.write(bytes.Repeat([]byte{' '}, int(n))...)
}
