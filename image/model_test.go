package image_test

import (
	"slices"
	"testing"

	"lightship/api"
	"lightship/image"
)

// alphabet has what it takes for words that are right, and for those that are wrong in each way: numbers of letters and cells, flags, letters.
var alphabet = []byte{0, 1, 2, 33}

const longest = 10 // bytes: two words without code, or one word of two letters with a cell

// shortWords are all right words of these bytes alone, of at most so many bytes.
func shortWords() []api.Word {
	var l []api.Word
	for _, name := range []string{"!", "!!"} {
		for flags := range uint8(3) {
			l = append(l, api.Word{Name: name, Flags: flags})
			for _, a := range alphabet {
				for _, b := range alphabet {
					for _, c := range alphabet {
						for _, d := range alphabet {
							x := uint32(a) + 256*(uint32(b)+256*(uint32(c)+256*uint32(d)))
							l = append(l, api.Word{Name: name, Flags: flags, Code: []uint32{x}})
						}
					}
				}
			}
		}
	}
	return l
}

// shortLists are all lists of these words of at most so many bytes, by their bytes: there are not two with the same ones.
func shortLists(t *testing.T) map[string][]api.Word {
	lists := map[string][]api.Word{"": nil}
	words := shortWords()
	var grow func(l []api.Word, b []byte)
	grow = func(l []api.Word, b []byte) {
		for _, w := range words {
			m, c := append(slices.Clone(l), w), slices.Concat(b, defined(w))
			if len(c) > longest {
				continue
			}
			if other, ok := lists[string(c)]; ok {
				t.Errorf("%v and %v have the same bytes %d", other, m, c)
			}
			lists[string(c)] = m
			grow(m, c)
		}
	}
	grow(nil, nil)
	return lists
}

// P10.1, P10.3: all bytes there are of few kinds: they are those of the list that was made with them, and of none else.
func TestAllShortBytes(t *testing.T) {
	lists := shortLists(t)
	found := 0
	for n := range longest + 1 {
		b := make([]byte, n)
		for i := range 1 << (2 * n) {
			for j := range b {
				b[j] = alphabet[i>>(2*j)%4]
			}
			l, e := image.Decode(b)
			wanted, ok := lists[string(b)]
			if ok != (e == api.OK) || !ok && e != api.ErrWord || !slices.EqualFunc(l, wanted, same) {
				t.Fatalf("Decode of %d: %v, error %d, want %v", b, l, e, wanted)
			}
			if ok {
				found++
				wantBytes(t, "Encode", encoded(t, wanted...), b)
			}
		}
	}
	want(t, "lists that were found", found, len(lists))
}

// someWords are right words that look random.
func someWords(next func(below int) int) []api.Word {
	l := make([]api.Word, next(6))
	for i := range l {
		name := make([]byte, 1+next(31))
		for j := range name {
			name[j] = letters[next(len(letters))]
		}
		code := make([]uint32, next(12))
		if next(20) == 0 {
			code = make([]uint32, counts[next(len(counts))])
		}
		for j := range code {
			code[j] = uint32(next(1<<16))<<16 ^ uint32(next(1<<16))
		}
		l[i] = api.Word{Name: string(name), Flags: uint8(next(4)), Code: code}
	}
	return l
}

// P10.1, P10.3: what is encoded is decoded; and what is decoded is encoded to just these bytes, however they came about.
func TestChangedBytes(t *testing.T) {
	next := numbers(10)
	decoded := [2]int{}
	for range 3000 {
		l := someWords(next)
		b := encoded(t, l...)
		wantBytes(t, "Encode", b, definedAll(l))
		wantDecoded(t, "unchanged", b, l)
		for range 1 + 2*min(len(b), 20) {
			c := changed(next, b)
			m, e := image.Decode(c)
			if e != api.OK {
				want(t, "changed: Decode", e, api.ErrWord)
				wantWords(t, "changed: Decode", m, nil)
				decoded[0]++
				continue
			}
			wantBytes(t, "changed: Encode of what was decoded", encoded(t, m...), c)
			decoded[1]++
		}
		if t.Failed() {
			t.FailNow()
		}
	}
	if min(decoded[0], decoded[1]) < 1000 {
		t.Errorf("changed bytes that were refused, and decoded: %d", decoded)
	}
}

// changed returns bytes with some of them changed, removed, or put in again.
func changed(next func(below int) int, b []byte) []byte {
	c := slices.Clone(b)
	for range 1 + next(2) {
		if len(c) == 0 {
			return []byte{byte(next(256))}
		}
		i := next(len(c))
		switch next(5) {
		case 0:
			c = slices.Delete(c, i, i+1)
		case 1:
			c = slices.Insert(c, i, c[next(len(c))])
		case 2:
			c[i] = byte(next(256))
		case 3:
			c[i] ^= 1 << next(8)
		case 4:
			c = slices.Concat(c, c[i:])
		}
	}
	return c
}
