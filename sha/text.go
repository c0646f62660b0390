package sha

const blockSize = 64

// text is what has to be known of a text to go on with it: the words behind its whole blocks, and the bytes behind these.
type text struct {
	words  [8]uint32
	block  [blockSize]byte // length tells how many of them count
	length int
}

func noBytes() text {
	return text{words: squareRoots}
}

func (t *text) add(b []byte) {
	for len(b) > 0 {
		n := copy(t.block[t.length%blockSize:], b)
		b = b[n:]
		t.length += n
		if t.length%blockSize == 0 {
			t.words = after(t.words, t.block)
		}
	}
}

// sum pads a copy, so that t can go on as if it had not been asked.
func (t text) sum() [32]byte {
	t.add(padding(t.length))
	var sum [32]byte
	for i := range sum {
		sum[i] = byte(t.words[i/4] >> (24 - i%4*8))
	}
	return sum
}

// padding returns the bytes that follow a text of this length.
func padding(length int) []byte {
	zeros := (blockSize + 55 - length%blockSize) % blockSize
	p := make([]byte, 1+zeros, 1+zeros+8)
	p[0] = 128
	bits := uint64(length) * 8
	for shift := 56; shift >= 0; shift -= 8 {
		p = append(p, byte(bits>>shift))
	}
	return p
}
