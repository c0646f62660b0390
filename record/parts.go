package record

import (
	"lightship/api"
	"lightship/crc"
)

// word is how many bytes a head, a sum and a commit have, and what a payload is filled up to a multiple of.
const word = 4

// parts are the head, the body and the commit, in the order in which they are programmed.
func parts(payload []byte) [3][]byte {
	head := headOf(len(payload))
	return [3][]byte{head, bodyOf(head, payload), {0, 0, 0, 0}}
}

func headOf(n int) []byte {
	high, low := byte(n>>8), byte(n)
	return []byte{high, low, ^high, ^low}
}

// lengthOf returns the length that a head at the beginning of b tells, and whether there is a right one.
func lengthOf(b []byte) (int, bool) {
	if len(b) < word || b[0] != ^b[2] || b[1] != ^b[3] {
		return 0, false
	}
	n := int(b[0])<<8 | int(b[1])
	return n, n <= api.MaxRecord
}

func bodyOf(head, payload []byte) []byte {
	body := make([]byte, 0, filled(len(payload))+word)
	body = append(body, payload...)
	for len(body)%word != 0 {
		body = append(body, 255)
	}
	sum := crc.End(crc.Add(crc.Add(crc.Begin(), head), body))
	return append(body, byte(sum>>24), byte(sum>>16), byte(sum>>8), byte(sum))
}

// filled returns n rounded up to a multiple of a word.
func filled(n int) int {
	return (n + word - 1) / word * word
}
