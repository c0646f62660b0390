package vm

import (
	"lightship/api"
	"lightship/number"
)

// picture does those that work on the pictured number, and those that write numbers.
func (v *Machine) picture(n uint32, taken []uint32) api.Throw {
	switch n {
	case numPicture:
		v.pictured = 0
	case numDigit:
		return v.digit(taken[0], taken[1])
	case numDigits:
		return v.digits(taken[0], taken[1])
	case numPictured:
		return v.data.Push(api.DataAt-v.pictured, v.pictured)
	case numHold:
		return v.hold(byte(taken[0]))
	case numSign:
		if int32(taken[0]) < 0 {
			return v.hold('-')
		}
	case numDot:
		return v.writeNumber(taken[0], true)
	case numUnsignedDot:
		return v.writeNumber(taken[0], false)
	}
	return api.ThrowNone
}

// base returns what is in BASE, which need not be a base.
func (v *Machine) base() uint32 {
	x, _ := v.memory.Load(api.BaseAt)
	return x
}

// hold puts bytes before those of the pictured number, one by one: all of them, or none.
func (v *Machine) hold(b ...byte) api.Throw {
	if len(b) > api.PicSize-int(v.pictured) {
		return api.ThrowPic
	}
	for _, c := range b {
		v.pictured++
		v.memory.SetByte(api.DataAt-v.pictured, c)
	}
	return api.ThrowNone
}

// digit holds the last digit of a double number, and gives the rest.
func (v *Machine) digit(low, high uint32) api.Throw {
	low, high, c, ok := number.Step(low, high, v.base())
	if !ok {
		return api.ThrowNumber
	}
	if t := v.hold(c); t != api.ThrowNone {
		return t
	}
	return v.data.Push(low, high)
}

// digits holds all digits of a double number, at least one, and gives 0.
func (v *Machine) digits(low, high uint32) api.Throw {
	var all []byte
	for len(all) == 0 || low != 0 || high != 0 {
		var c byte
		var ok bool
		low, high, c, ok = number.Step(low, high, v.base())
		if !ok {
			return api.ThrowNumber
		}
		all = append(all, c)
	}
	if t := v.hold(all...); t != api.ThrowNone {
		return t
	}
	return v.data.Push(low, high)
}

// writeNumber writes a number of one cell, and a blank.
func (v *Machine) writeNumber(x uint32, signed bool) api.Throw {
	var high uint32
	if signed {
		high = uint32(int32(x) >> 31) // all bits of it are the sign's
	}
	text, ok := number.Text(x, high, v.base(), signed)
	if !ok {
		return api.ThrowNumber
	}
	return v.write([]byte(text + " ")...)
}
