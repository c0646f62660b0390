package ring

import (
	"lightship/api"
	"lightship/flash"
	"lightship/record"
)

// letter is what the payload of a head begins with.
const letter = 'R'

func payloadOf(number uint32) []byte {
	return []byte{letter, byte(number >> 24), byte(number >> 16), byte(number >> 8), byte(number)}
}

// numberOf returns the number in the payload of a record, and whether that record is a head.
func numberOf(payload []byte) (uint32, bool) {
	if len(payload) != len(payloadOf(0)) || payload[0] != letter {
		return 0, false
	}
	number := uint32(0)
	for _, b := range payload[1:] {
		number = number<<8 | uint32(b)
	}
	return number, true
}

// headerOf returns what a sector with these bytes is.
func headerOf(sector int, b []byte) api.Header {
	r := record.At(b)
	if r.Kind == api.Blank {
		return api.Header{Sector: sector, Kind: api.SectorFree}
	}
	if r.Kind == api.Valid {
		if number, ok := numberOf(r.Payload); ok {
			return api.Header{Sector: sector, Kind: api.SectorLive, Number: number}
		}
	}
	return api.Header{Sector: sector, Kind: api.SectorDirty}
}

// read returns the bytes of a sector. The position of one that isn't there is not worked out, as a great number would wrap round to a sector that is.
func read(f *flash.Flash, sector int) ([]byte, api.Errno) {
	at := -1
	if sector >= 0 && sector < f.Sectors() {
		at = sector * api.Sector
	}
	return f.Read(at, api.Sector)
}

// none reports whether f is no flash: each flash has sectors, even while its power is down.
func none(f *flash.Flash) bool {
	return f.Sectors() == 0
}
