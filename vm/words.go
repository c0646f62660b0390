package vm

import (
	"slices"

	"lightship/api"
	"lightship/image"
	"lightship/prim"
)

// size is how many bytes a cell has.
const size = 4

// entry is a word, and what is asked of its code again and again.
type entry struct {
	api.Word
	long  []int  // of each cell: how many cells the instruction has that starts there, 0 if none does
	cells uint32 // the address of the first cell in the window
}

// place is the index of a word, and a start of its code.
type place struct{ word, start int }

// cell returns the cell of a place.
func (p place) cell() uint32 {
	return uint32(p.word)*api.Place + uint32(p.start)
}

// placeOf returns the place that has this cell, and whether there is one.
func (v *Machine) placeOf(x uint32) (place, bool) {
	p := place{int(x / api.Place), int(x % api.Place)}
	if p.word >= len(v.words) {
		return place{}, false
	}
	long := v.words[p.word].long
	if p.start >= len(long) || long[p.start] == 0 {
		return place{}, false
	}
	return p, true
}

// put makes these the words, in memory of their own: false, and nothing, if the window has no room for their bytes.
func (v *Machine) put(l []api.Word) bool {
	b, e := image.Encode(l)
	if e != api.OK || len(b) > api.MaxWindow {
		return false
	}
	v.memory.Show(b)
	v.words = make([]entry, len(l))
	behind := uint32(api.WindowAt)
	for i, w := range l {
		behind += uint32(image.Size(w))
		v.words[i] = entry{copied(w), longs(w.Code), behind - uint32(size*len(w.Code))}
	}
	return true
}

// stayIn reports whether the words are the first ones of a list.
func (v *Machine) stayIn(l []api.Word) bool {
	if len(l) < len(v.words) {
		return false
	}
	for i, e := range v.words {
		if e.Name != l[i].Name || e.Flags != l[i].Flags || !slices.Equal(e.Code, l[i].Code) {
			return false
		}
	}
	return true
}

// longs returns of each cell of right code how many cells the instruction has that starts there.
func longs(code []uint32) []int {
	l := make([]int, len(code))
	starts, _ := prim.Starts(code)
	behind := len(code)
	for _, at := range slices.Backward(starts) {
		l[at] = behind - at
		behind = at
	}
	return l
}

func copied(w api.Word) api.Word {
	w.Code = slices.Clone(w.Code)
	return w
}
