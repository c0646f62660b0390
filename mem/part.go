package mem

import (
	"bytes"

	"lightship/api"
)

// part is bytes, and the address of the first one.
type part struct {
	at    uint32
	bytes []byte
}

// windowOf returns a window with these bytes, in memory of its own.
func windowOf(b []byte) part {
	return part{api.WindowAt, bytes.Clone(b)}
}

// from returns the n bytes from an address on, and whether they all are there; those behind them can't be reached by what it returns.
func (p part) from(at, n uint32) ([]byte, bool) {
	size := uint32(len(p.bytes))
	if at < p.at || n > size || at-p.at > size-n { // differences alone, as the sum of an address and a count may wrap round
		return nil, false
	}
	first := at - p.at
	return p.bytes[first : first+n : first+n], true
}
