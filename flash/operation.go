package flash

// operation is the bytes that are addressed, and what the i-th one becomes if only the bits of through get through.
type operation struct {
	bytes   []byte
	becomes func(i int, old, through byte) byte
}

func (o operation) done(through func(i int) byte) {
	for i, old := range o.bytes {
		o.bytes[i] = o.becomes(i, old, through(i))
	}
}
