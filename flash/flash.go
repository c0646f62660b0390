// Package flash is layer 1: see shared/doc/01-flash.md.
package flash

import (
	"bytes"
	"slices"

	"lightship/api"
)

// Flash is bytes in sectors, the wear of each sector, and the power.
type Flash struct {
	self  *Flash // only New and Copy set it: neither a zero Flash nor one that was assigned by value passes for theirs
	bytes []byte
	wear  []int
	power power
}

// New: P1.1.
func New(sectors int) (*Flash, api.Errno) {
	if sectors < api.MinSectors || sectors > api.MaxSectors {
		return nil, api.ErrArg
	}
	erased := bytes.Repeat([]byte{255}, sectors*api.Sector)
	return own(&Flash{bytes: erased, wear: make([]int, sectors)}), api.OK
}

// Sectors: P1.1.
func (f *Flash) Sectors() int {
	if !f.made() {
		return 0
	}
	return len(f.wear)
}

// Read: P1.2.
func (f *Flash) Read(at, n int) ([]byte, api.Errno) {
	if e := f.ready(); e != api.OK {
		return nil, e
	}
	if !f.has(at, n) {
		return nil, api.ErrBounds
	}
	return slices.Clone(f.bytes[at : at+n]), api.OK
}

// Program: P1.3.
func (f *Flash) Program(at int, b []byte) api.Errno {
	if e := f.mayProgram(at, len(b)); e != api.OK || len(b) == 0 {
		return e
	}
	cleared := func(i int, old, through byte) byte { return old &^ (through &^ b[i]) }
	return f.let(operation{f.bytes[at : at+len(b)], cleared}.done)
}

// Erase: P1.3.
func (f *Flash) Erase(sector int) api.Errno {
	if e := f.mayErase(sector); e != api.OK {
		return e
	}
	f.wear[sector]++ // ahead of the power's say, as a torn erase wears, too
	at := sector * api.Sector
	set := func(_ int, _, through byte) byte { return through }
	return f.let(operation{f.bytes[at : at+api.Sector], set}.done)
}

// Wear: P1.1.
func (f *Flash) Wear(sector int) int {
	if !f.made() || !f.hasSector(sector) {
		return 0
	}
	return f.wear[sector]
}

// Arm: P1.4.
func (f *Flash) Arm(n int, mask []byte) api.Errno {
	if e := f.ready(); e != api.OK {
		return e
	}
	if n < 0 {
		return api.ErrArg
	}
	reach := min(len(mask), len(f.bytes)) // no operation has more bytes than the flash
	f.power = power{armed: true, left: n, mask: slices.Clone(mask[:reach])}
	return api.OK
}

// Down: P1.4.
func (f *Flash) Down() bool {
	return f.made() && f.power.down
}

// Up: P1.4.
func (f *Flash) Up() api.Errno {
	if !f.made() {
		return api.ErrNil
	}
	f.power = power{}
	return api.OK
}

// Copy: P1.1.
func (f *Flash) Copy() *Flash {
	if !f.made() {
		return nil
	}
	c := &Flash{bytes: slices.Clone(f.bytes), wear: slices.Clone(f.wear)}
	c.power = f.power // its mask may be shared, as nothing writes to a mask that was armed
	return own(c)
}

func own(f *Flash) *Flash {
	f.self = f
	return f
}

func (f *Flash) made() bool {
	return f != nil && f.self == f
}

func (f *Flash) ready() api.Errno {
	if !f.made() {
		return api.ErrNil
	}
	if f.power.down {
		return api.ErrDown
	}
	return api.OK
}

// has subtracts, as at+n of great numbers would wrap round.
func (f *Flash) has(at, n int) bool {
	return at >= 0 && n >= 0 && at <= len(f.bytes)-n
}

func (f *Flash) hasSector(sector int) bool {
	return sector >= 0 && sector < len(f.wear)
}

func (f *Flash) mayProgram(at, n int) api.Errno {
	if e := f.ready(); e != api.OK {
		return e
	}
	if !f.has(at, n) {
		return api.ErrBounds
	}
	if at%4 != 0 || n%4 != 0 {
		return api.ErrAlign
	}
	return api.OK
}

func (f *Flash) mayErase(sector int) api.Errno {
	if e := f.ready(); e != api.OK {
		return e
	}
	if !f.hasSector(sector) {
		return api.ErrBounds
	}
	return api.OK
}

// let is the one place where operations count and are torn, so that what was refused before it does neither.
func (f *Flash) let(do func(through func(i int) byte)) api.Errno {
	if f.power.spend() {
		do(whole)
		return api.OK
	}
	do(f.power.torn)
	f.power = power{down: true}
	return api.ErrDown
}
