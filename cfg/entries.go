package cfg

import (
	"bytes"
	"maps"
	"slices"

	"lightship/api"
)

// What the first byte of a payload tells of its key.
const (
	set     byte = 1
	deleted byte = 2
)

// preface is how many bytes a payload has ahead of the key.
const preface = 2

func allowed(key []byte) bool {
	return len(key) >= 1 && len(key) <= api.MaxKey
}

func payloadOf(what byte, key, val []byte) []byte {
	return slices.Concat([]byte{what, byte(len(key))}, key, val)
}

// entries are by their keys.
type entries map[string]api.Entry

// put returns how a key gets a value. Both are copied, as they may be parts of one payload, and entries share no memory.
func (m entries) put(key, val []byte) func() {
	x := api.Entry{Key: bytes.Clone(key), Val: bytes.Clone(val)}
	return func() { m[string(x.Key)] = x }
}

// drop returns how a key loses its value.
func (m entries) drop(key []byte) func() {
	return func() { delete(m, string(key)) }
}

// told returns what becomes of the entries by a payload: nothing if it tells no change.
func (m entries) told(payload []byte) func() {
	nothing := func() {}
	if len(payload) < preface {
		return nothing
	}
	what, n, rest := payload[0], int(payload[1]), payload[preface:]
	if n > len(rest) || !allowed(rest[:n]) {
		return nothing
	}
	key, val := rest[:n], rest[n:]
	switch {
	case what == set && len(val) <= api.MaxVal:
		return m.put(key, val)
	case what == deleted && len(val) == 0:
		return m.drop(key)
	}
	return nothing
}

// entriesOf returns what records, one behind the other, leave.
func entriesOf(l []api.Record) entries {
	m := entries{}
	for _, r := range l {
		if r.Kind == api.Valid {
			m.told(r.Payload)()
		}
	}
	return m
}

func (m entries) sorted() []api.Entry {
	byKey := func(a, b api.Entry) int { return bytes.Compare(a.Key, b.Key) }
	return slices.SortedFunc(maps.Values(m), byKey)
}

func (m entries) weight() int {
	sum := 0
	for _, x := range m {
		sum += Weight(x.Key, x.Val)
	}
	return sum
}
