package dict

import (
	"slices"

	"lightship/api"
	"lightship/image"
	"lightship/prim"
	"lightship/record"
)

// unit is what the address of a region, its size and its end are multiples of.
const unit = 4

// mayBe reports whether a region may be at, or have, so many bytes.
func mayBe(n int) bool {
	return n >= 0 && n%unit == 0
}

// endOf returns where the next record begins. Bytes that are no multiple of a unit may end with a piece of one: no end is behind them.
func endOf(b []byte) int {
	return min((record.End(b)+unit-1)/unit*unit, len(b))
}

// single returns the words of those records that have the bytes of one each.
func single(scan []api.Record) []api.Word {
	var l []api.Word
records:
	for _, r := range scan {
		if r.Kind != api.Valid {
			continue records
		}
		words, e := image.Decode(r.Payload)
		if e != api.OK || len(words) != 1 {
			continue records
		}
		l = append(l, words[0])
	}
	return l
}

// rightOnes returns those words that are right behind the ones that are kept ahead of them, as many as a dictionary may have. All are checked at once, and again without the first wrong one: a check of each alone would go through all ahead of it each time.
func rightOnes(l []api.Word) []api.Word {
	for {
		kept := l[:min(len(l), api.MaxWords)]
		wrong := prim.Check(kept)
		if wrong < 0 {
			return kept
		}
		copy(l[1:], l[:wrong]) // those ahead move over the wrong one, as there may be many more behind it
		l = l[1:]
	}
}

// longer returns words with a new one behind them. Its code is copied, as it is the caller's; whatever stands behind the words, as rightOnes leaves some, stays.
func longer(l []api.Word, w api.Word) []api.Word {
	w.Code = slices.Clone(w.Code)
	return append(l[:len(l):len(l)], w)
}
