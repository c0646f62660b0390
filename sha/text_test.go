package sha

import (
	"bytes"
	"testing"
)

// P3.1: the number of bits has eight bytes: texts whose bits need more than four of them are too long to be gone through here.
func TestPaddingOfLongTexts(t *testing.T) {
	for _, k := range []struct {
		length, zeros int
		count         []byte
	}{
		{0, 55, []byte{0, 0, 0, 0, 0, 0, 0, 0}},
		{55, 0, []byte{0, 0, 0, 0, 0, 0, 1, 0xb8}},
		{56, 63, []byte{0, 0, 0, 0, 0, 0, 1, 0xc0}},
		{63, 56, []byte{0, 0, 0, 0, 0, 0, 1, 0xf8}},
		{64, 55, []byte{0, 0, 0, 0, 0, 0, 2, 0}},
		{1<<29 - 1, 56, []byte{0, 0, 0, 0, 0xff, 0xff, 0xff, 0xf8}},
		{1 << 29, 55, []byte{0, 0, 0, 1, 0, 0, 0, 0}},
		{1<<31 - 1, 56, []byte{0, 0, 0, 3, 0xff, 0xff, 0xff, 0xf8}},
	} {
		want := append(append([]byte{128}, make([]byte, k.zeros)...), k.count...)
		if got := padding(k.length); !bytes.Equal(got, want) {
			t.Errorf("%d bytes: padded by %x, want %x", k.length, got, want)
		}
	}
}
