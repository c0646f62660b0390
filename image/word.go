package image

import "lightship/api"

// A word's bytes begin with its head: how many letters, the flags, how many cells.
const (
	head = 4
	cell = 4
)

// The least letter of a name, and the greatest one.
const (
	least    = '!'
	greatest = '~'
)

// Right reports whether a word is right.
func Right(w api.Word) bool {
	return rightName(w.Name) && w.Flags <= api.FlagAll && len(w.Code) <= api.MaxCode
}

func rightName(name string) bool {
	if len(name) < 1 || len(name) > api.MaxName {
		return false
	}
	for i := range len(name) {
		if name[i] < least || name[i] > greatest {
			return false
		}
	}
	return true
}

func sizeOf(letters, cells int) int {
	return head + letters + cell*cells
}

// appended puts the bytes of a right word behind b.
func appended(b []byte, w api.Word) []byte {
	n := len(w.Code)
	b = append(b, byte(len(w.Name)), w.Flags, byte(n), byte(n>>8))
	b = append(b, w.Name...)
	for _, x := range w.Code {
		b = append(b, byte(x), byte(x>>8), byte(x>>16), byte(x>>24))
	}
	return b
}

// first returns the right word whose bytes stand at the beginning of b, and how many these are: 0 if there is none.
func first(b []byte) (api.Word, int) {
	if len(b) < head {
		return api.Word{}, 0
	}
	letters, cells := int(b[0]), int(b[2])|int(b[3])<<8
	if len(b) < sizeOf(letters, cells) {
		return api.Word{}, 0
	}
	w := api.Word{Name: string(b[head : head+letters]), Flags: b[1], Code: codeOf(b[head+letters:], cells)}
	return w, Size(w)
}

// codeOf returns the n cells whose bytes stand at the beginning of b.
func codeOf(b []byte, n int) []uint32 {
	code := make([]uint32, n)
	for i := range code {
		c := b[cell*i : cell*i+cell]
		code[i] = uint32(c[0]) | uint32(c[1])<<8 | uint32(c[2])<<16 | uint32(c[3])<<24
	}
	return code
}
