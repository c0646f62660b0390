package crc

// matrix is a change of 32 bits in which each bit counts for itself: at i, what bit i alone becomes.
type matrix [32]uint32

// zeroBit is the effect of one zero bit.
func zeroBit() matrix {
	var m matrix
	become := zeroBits(1)
	for i := range m {
		m[i] = become(1 << i)
	}
	return m
}

// zeroByte is squared out of a bit's effect, so that lengths stay counts of bytes: eight times the greatest of them would be no int.
func zeroByte() matrix {
	return zeroBit().squared().squared().squared()
}

// of returns what becomes of v.
func (m matrix) of(v uint32) uint32 {
	var sum uint32
	for i, column := range m {
		if v>>i&1 == 1 {
			sum ^= column
		}
	}
	return sum
}

// squared is the change done twice.
func (m matrix) squared() matrix {
	var twice matrix
	for i, column := range m {
		twice[i] = m.of(column)
	}
	return twice
}

// repeated returns what becomes of v if the change is done n times: v itself for an n of 0 or below.
func (m matrix) repeated(v uint32, n int) uint32 {
	for ; n > 0; n >>= 1 {
		if n&1 == 1 {
			v = m.of(v)
		}
		m = m.squared()
	}
	return v
}
