package dict_test

import (
	"bytes"
	"hash/crc32"
	"slices"
	"testing"

	"lightship/api"
	"lightship/dict"
	"lightship/flash"
	"lightship/image"
	"lightship/prim"
)

// definedBytes are the bytes of a word, right or not, as chapter 10 has them.
func definedBytes(w api.Word) []byte {
	b := []byte{byte(len(w.Name)), w.Flags, byte(len(w.Code)), byte(len(w.Code) >> 8)}
	b = append(b, w.Name...)
	for _, x := range w.Code {
		b = append(b, byte(x), byte(x>>8), byte(x>>16), byte(x>>24))
	}
	return b
}

// definedRecord is the record of a payload as chapter 4 has it.
func definedRecord(payload []byte) []byte {
	n := len(payload)
	r := []byte{byte(n / 256), byte(n % 256), byte(255 - n/256), byte(255 - n%256)}
	r = append(r, payload...)
	for len(r)%4 != 0 {
		r = append(r, 255)
	}
	sum := crc32.ChecksumIEEE(r)
	return append(r, byte(sum>>24), byte(sum>>16), byte(sum>>8), byte(sum), 0, 0, 0, 0)
}

// of is the record of a word.
func of(w api.Word) []byte { return definedRecord(definedBytes(w)) }

// rows are the records of words, one behind the other.
func rows(l ...api.Word) []byte {
	var b []byte
	for _, w := range l {
		b = append(b, of(w)...)
	}
	return b
}

// definedWords goes through bytes by the chapter's Terms, a record at a time, and each word is held against those ahead of it alone.
func definedWords(b []byte) ([]api.Word, int) {
	var l []api.Word
	at := 0
	for at < len(b) && !bytes.Equal(b[at:], ones(len(b)-at)) {
		payload, size := definedFirst(b[at:])
		at += size
		if one, e := image.Decode(payload); e == api.OK && len(one) == 1 && len(l) < 2048 {
			if then := append(slices.Clone(l), one[0]); prim.Check(then) == -1 {
				l = then
			}
		}
	}
	return l, min((at+3)/4*4, len(b))
}

// definedFirst is the payload of what stands at the beginning, if it is a record, and how many bytes it takes.
func definedFirst(b []byte) ([]byte, int) {
	if len(b) >= 4 && b[0] == 255-b[2] && b[1] == 255-b[3] {
		n := int(b[0])*256 + int(b[1])
		size := 12 + (n+3)/4*4
		if n <= 4080 && size <= len(b) {
			if payload := b[4 : 4+n]; bytes.HasPrefix(b, definedRecord(payload)) {
				return payload, size
			}
			return nil, size
		}
	}
	return nil, min(4, len(b))
}

// named is a word with this name and code.
func named(name string, code ...uint32) api.Word {
	return api.Word{Name: name, Code: code}
}

// three are right words, with starts 0 2, 0 1 2 3, and 0 3: the second one calls the first, the third goes into the second.
func three() []api.Word {
	return []api.Word{
		{Name: "one", Code: []uint32{102, 1, 101}},
		{Name: "two", Flags: api.FlagNow, Code: []uint32{256, 1, 16, 101}},
		{Name: "go", Flags: api.FlagAll, Code: []uint32{139, 1, 2, 101}},
	}
}

func same(a, b []api.Word) bool {
	return slices.EqualFunc(a, b, func(a, b api.Word) bool {
		return a.Name == b.Name && a.Flags == b.Flags && slices.Equal(a.Code, b.Code)
	})
}

// wantWords fails unless Words of bytes tells these, and leaves the bytes as they are.
func wantWords(t *testing.T, what string, b []byte, wanted []api.Word, end int) {
	t.Helper()
	before := slices.Clone(b)
	l, n := dict.Words(b)
	if !same(l, wanted) || n != end {
		t.Errorf("%s: Words: %s, end %d, want %s, %d", what, told(l), n, told(wanted), end)
	}
	wantBytes(t, what+" afterwards", b, before)
}

// wantAsDefined holds Words of bytes against the chapter's Terms, and returns how many these are.
func wantAsDefined(t *testing.T, what string, b []byte) int {
	t.Helper()
	l, end := definedWords(b)
	wantWords(t, what, b, l, end)
	return len(l)
}

// region is where a dictionary is.
type region struct{ at, size int }

// regions are those of a flash of 8 sectors: all of it, its ends, within a sector, across several.
var regions = []region{{0, 2048}, {0, 512}, {1536, 512}, {260, 248}, {252, 1004}, {1240, 808}}

// wantLoad fails unless Load of a region tells these words.
func wantLoad(t *testing.T, what string, f *flash.Flash, r region, wanted []api.Word, end int) {
	t.Helper()
	l, n, e := dict.Load(f, r.at, r.size)
	if !same(l, wanted) || n != end || e != api.OK {
		t.Errorf("%s: Load(%d, %d): %s, end %d, error %d, want %s, %d", what, r.at, r.size, told(l), n, e, told(wanted), end)
	}
}

// wantNoLoad fails unless Load returns this error, and nothing else.
func wantNoLoad(t *testing.T, what string, f *flash.Flash, r region, wanted api.Errno) {
	t.Helper()
	l, n, e := dict.Load(f, r.at, r.size)
	if len(l) != 0 || n != 0 || e != wanted {
		t.Errorf("%s: Load(%d, %d): %s, end %d, error %d, want error %d", what, r.at, r.size, told(l), n, e, wanted)
	}
}

// wantAppend fails unless Append writes a word, and returns these.
func wantAppend(t *testing.T, what string, f *flash.Flash, r region, w api.Word, wanted []api.Word) {
	t.Helper()
	l, e := dict.Append(f, r.at, r.size, w)
	if !same(l, wanted) || e != api.OK {
		t.Errorf("%s: Append of %s: %s, error %d, want %s", what, w.Name, told(l), e, told(wanted))
	}
}

// wantNoAppend fails unless Append returns this error, and nothing else.
func wantNoAppend(t *testing.T, what string, f *flash.Flash, r region, w api.Word, wanted api.Errno) {
	t.Helper()
	l, e := dict.Append(f, r.at, r.size, w)
	if len(l) != 0 || e != wanted {
		t.Errorf("%s: Append of %s to %v: %s, error %d, want error %d", what, w.Name, r, told(l), e, wanted)
	}
}

// told is what a failure tells of words: their names, as there may be many.
func told(l []api.Word) string {
	s := ""
	for _, w := range l[:min(len(l), 20)] {
		s += w.Name + " "
	}
	if len(l) > 20 {
		s += ".. "
	}
	return s
}

func ones(n int) []byte { return bytes.Repeat([]byte{255}, n) }

// dice is a row of numbers that is the same in every run.
type dice uint32

func (d *dice) below(n int) int {
	*d = *d*1664525 + 1013904223
	return int(*d>>8) % n
}

func (d *dice) bytes(n int) []byte {
	b := make([]byte, n)
	for i := range b {
		b[i] = byte(d.below(256))
	}
	return b
}

// code is of a few kinds, for a word at an index: most is right.
func (d *dice) code(i int) []uint32 {
	var code []uint32
	for range d.below(4) {
		switch d.below(4) {
		case 0:
			code = append(code, 102, uint32(d.below(300)))
		case 1:
			code = append(code, uint32(256+d.below(i+2)))
		case 2:
			code = append(code, 139, uint32(d.below(i+1)), 0)
		case 3:
			code = append(code, uint32(1+d.below(75)))
		}
	}
	if d.below(12) > 0 {
		code = append(code, 101)
	}
	return code
}

func newFlash(t *testing.T, sectors int) *flash.Flash {
	t.Helper()
	f, e := flash.New(sectors)
	if e != api.OK {
		t.Fatalf("New(%d): error %d", sectors, e)
	}
	return f
}

// laid is a flash of 8 sectors with these bytes at a position.
func laid(t *testing.T, at int, b []byte) *flash.Flash {
	t.Helper()
	f := newFlash(t, 8)
	want(t, "Program", f.Program(at, b), api.OK)
	return f
}

// downFlash is a flash whose power has failed.
func downFlash(t *testing.T) *flash.Flash {
	t.Helper()
	f := newFlash(t, 8)
	want(t, "Arm", f.Arm(0, nil), api.OK)
	want(t, "torn Erase", f.Erase(0), api.ErrDown)
	return f
}

// nones are flashes that neither New nor Copy returned.
func nones(t *testing.T) map[string]*flash.Flash {
	byValue := *newFlash(t, 8)
	return map[string]*flash.Flash{"nil": nil, "zero": {}, "by value": &byValue}
}

func contents(t *testing.T, f *flash.Flash) []byte {
	t.Helper()
	b, e := f.Read(0, f.Sectors()*api.Sector)
	want(t, "Read of everything", e, api.OK)
	return b
}

// wantKept fails unless a call leaves the bytes of a flash as they are, and counts for nothing.
func wantKept(t *testing.T, what string, f *flash.Flash, call func()) {
	t.Helper()
	before := contents(t, f)
	want(t, "Arm", f.Arm(0, []byte{1, 2, 3}), api.OK)
	call()
	if f.Down() {
		t.Errorf("%s: it counted", what)
	}
	want(t, "Up", f.Up(), api.OK)
	wantBytes(t, what, contents(t, f), before)
}

func want(t *testing.T, what string, got, wanted api.Errno) {
	t.Helper()
	if got != wanted {
		t.Errorf("%s: error %d, want %d", what, got, wanted)
	}
}

// wantBytes tells only where bytes differ first, as there may be those of a whole flash.
func wantBytes(t *testing.T, what string, got, wanted []byte) {
	t.Helper()
	if bytes.Equal(got, wanted) {
		return
	}
	at := 0
	for at < min(len(got), len(wanted)) && got[at] == wanted[at] {
		at++
	}
	t.Errorf("%s: %d bytes, want %d; from %d on %v, want %v", what, len(got), len(wanted), at, got[at:min(at+16, len(got))], wanted[at:min(at+16, len(wanted))])
}
