package image

import (
	"slices"

	"lightship/api"
)

// Alike reports whether names are the same but for capital and small letters.
func Alike(a, b string) bool {
	if len(a) != len(b) {
		return false
	}
	for i := range len(a) {
		if small(a[i]) != small(b[i]) {
			return false
		}
	}
	return true
}

// Find returns the index of the last word whose name is alike: -1 if there is none.
func Find(l []api.Word, name string) int {
	for i, w := range slices.Backward(l) { // a later word hides those ahead of it
		if Alike(w.Name, name) {
			return i
		}
	}
	return -1
}

// small makes A to Z small, and leaves all other bytes as they are: none of them is a letter here, whatever text they may be part of.
func small(c byte) byte {
	if 'A' <= c && c <= 'Z' {
		return c - 'A' + 'a'
	}
	return c
}
