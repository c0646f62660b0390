package record_test

import (
	"bytes"
	"hash/crc32"
	"slices"

	"lightship/api"
)

// defined is the record of a payload as the chapter's Terms define it.
func defined(payload []byte) []byte {
	n := len(payload)
	r := []byte{byte(n / 256), byte(n % 256), byte(255 - n/256), byte(255 - n%256)}
	r = append(r, payload...)
	for len(r)%4 != 0 {
		r = append(r, 255)
	}
	r = append(r, sumOf(r)...)
	return append(r, 0, 0, 0, 0)
}

// definedAt goes through the kinds in the chapter's order, and each by its own words.
func definedAt(b []byte) api.Record {
	if bytes.Equal(b, bytes.Repeat([]byte{255}, len(b))) {
		return api.Record{Kind: api.Blank, Size: len(b)}
	}
	for n := 0; n <= min(api.MaxRecord, len(b)-12); n++ {
		whole := defined(b[4 : 4+n])
		if !bytes.HasPrefix(b, whole[:4]) || len(b) < len(whole) {
			continue
		}
		if bytes.HasPrefix(b, whole) {
			return api.Record{Kind: api.Valid, Size: len(whole), Payload: slices.Clone(b[4 : 4+n])}
		}
		return api.Record{Kind: api.Torn, Size: len(whole)}
	}
	return api.Record{Kind: api.Garbage, Size: min(4, len(b))}
}

func definedScan(b []byte) []api.Record {
	var l []api.Record
	for at := 0; ; {
		r := definedAt(b[at:])
		if r.Kind == api.Blank {
			return l
		}
		r.At = at
		l = append(l, r)
		at += r.Size
	}
}

func definedEnd(b []byte) int {
	l := definedScan(b)
	if len(l) == 0 {
		return 0
	}
	return l[len(l)-1].At + l[len(l)-1].Size
}

// same holds two things against each other; a missing payload and an empty one are the same (R6).
func same(a, b api.Record) bool {
	return a.At == b.At && a.Size == b.Size && a.Kind == b.Kind && bytes.Equal(a.Payload, b.Payload)
}

// sumOf is the CRC of bytes as it stands in a record.
func sumOf(b []byte) []byte {
	sum := crc32.ChecksumIEEE(b)
	return []byte{byte(sum >> 24), byte(sum >> 16), byte(sum >> 8), byte(sum)}
}
