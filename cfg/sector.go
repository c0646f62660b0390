package cfg

import (
	"lightship/api"
	"lightship/flash"
	"lightship/record"
	"lightship/ring"
)

// sector is the one in use: its ring's headers, its own, where nothing follows in it, and the entries that it tells.
type sector struct {
	row     []api.Header
	header  api.Header
	end     int
	entries entries
}

// inUse returns the sector in use as the flash has it.
func inUse(f *flash.Flash, r api.Ring) (sector, api.Errno) {
	row, e := ring.Look(f, r.First, r.Count)
	if e != api.OK {
		return sector{}, e
	}
	header, ok := ring.Newest(row)
	if !ok {
		return sector{}, api.ErrRing
	}
	b, e := f.Read(header.Sector*api.Sector, api.Sector)
	if e != api.OK {
		return sector{}, e
	}
	behind := record.Scan(b[ring.Head():])
	return sector{row, header, record.End(b), entriesOf(behind)}, api.OK
}

// change appends a payload, or turns the ring, with the entries as become leaves them.
func (s sector) change(f *flash.Flash, payload []byte, become func()) api.Errno {
	become()
	if s.entries.weight() > Room() {
		return api.ErrFull
	}
	if s.end+record.Size(len(payload)) > api.Sector {
		return s.turn(f)
	}
	return record.Write(f, s.header.Sector*api.Sector+s.end, payload)
}

// turn opens the next sector last of all, so that this one stays in use for as long as not all entries are there.
func (s sector) turn(f *flash.Flash) api.Errno {
	next, e := ring.Pick(f, s.row, s.header.Sector)
	if e != api.OK {
		return e
	}
	if e := ring.Clear(f, next); e != api.OK {
		return e
	}
	at := next*api.Sector + ring.Head()
	for _, x := range s.entries.sorted() {
		if e := record.Write(f, at, payloadOf(set, x.Key, x.Val)); e != api.OK {
			return e
		}
		at += Weight(x.Key, x.Val)
	}
	return ring.Open(f, next, s.header.Number+1)
}
