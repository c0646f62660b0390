package record

import (
	"bytes"
	"iter"

	"lightship/api"
)

// row yields what stands in b, one behind the other, but not what is nothing. Where that begins is looked for once, so that long garbage takes no longer than a pass over it.
func row(b []byte) iter.Seq[api.Record] {
	return func(yield func(api.Record) bool) {
		end := written(b)
		for at := 0; at < end; {
			r := first(b[at:])
			r.At = at
			if !yield(r) {
				return
			}
			at += r.Size
		}
	}
}

// first returns what stands at the beginning of b, which is not nothing.
func first(b []byte) api.Record {
	n, ok := lengthOf(b)
	if !ok || len(b) < Size(n) {
		return api.Record{Kind: api.Garbage, Size: min(word, len(b))}
	}
	payload := append([]byte(nil), b[word:word+n]...)
	if !bytes.HasPrefix(b, bytesOf(payload)) {
		return api.Record{Kind: api.Torn, Size: Size(n)}
	}
	return api.Record{Kind: api.Valid, Size: Size(n), Payload: payload}
}

// written returns how many bytes there are up to the last one that is not 255.
func written(b []byte) int {
	n := len(b)
	for n > 0 && b[n-1] == 255 {
		n--
	}
	return n
}
