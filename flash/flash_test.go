package flash_test

import (
	"bytes"
	"math"
	"testing"

	"lightship/api"
	"lightship/flash"
)

func newFlash(t *testing.T, sectors int) *flash.Flash {
	t.Helper()
	f, e := flash.New(sectors)
	if e != api.OK || f == nil {
		t.Fatalf("New(%d): %v, error %d", sectors, f, e)
	}
	return f
}

// want fails unless a call answered this error; what names the call.
func want(t *testing.T, what string, got, wanted api.Errno) {
	t.Helper()
	if got != wanted {
		t.Errorf("%s: error %d, want %d", what, got, wanted)
	}
}

func wantBytes(t *testing.T, f *flash.Flash, at int, wanted ...byte) {
	t.Helper()
	got, e := f.Read(at, len(wanted))
	if e != api.OK || !bytes.Equal(got, wanted) {
		t.Errorf("Read(%d, %d): %v, error %d, want %v", at, len(wanted), got, e, wanted)
	}
}

func wantWear(t *testing.T, f *flash.Flash, sector, wanted int) {
	t.Helper()
	if got := f.Wear(sector); got != wanted {
		t.Errorf("Wear(%d): %d, want %d", sector, got, wanted)
	}
}

func contents(t *testing.T, f *flash.Flash) []byte {
	t.Helper()
	b, e := f.Read(0, f.Sectors()*api.Sector)
	want(t, "Read of everything", e, api.OK)
	return b
}

// wantOnly fails if anything differs from before outside of n bytes from at on.
func wantOnly(t *testing.T, f *flash.Flash, before []byte, at, n int) {
	t.Helper()
	now := contents(t, f)
	if !bytes.Equal(now[:at], before[:at]) || !bytes.Equal(now[at+n:], before[at+n:]) {
		t.Errorf("something changed outside of %d bytes at %d", n, at)
	}
}

// nones are flashes that neither New nor Copy returned.
func nones(t *testing.T) map[string]*flash.Flash {
	byValue := *newFlash(t, 8)
	return map[string]*flash.Flash{"nil": nil, "zero": {}, "new": new(flash.Flash), "by value": &byValue}
}

func TestNewTakesFrom8To256Sectors(t *testing.T) {
	for _, n := range []int{8, 9, 56, 255, 256} {
		f := newFlash(t, n)
		if f.Sectors() != n {
			t.Errorf("New(%d): %d sectors", n, f.Sectors())
		}
	}
	for _, n := range []int{7, 257, 0, -1, -8, 2048, math.MaxInt, math.MinInt} {
		if f, e := flash.New(n); f != nil || e != api.ErrArg {
			t.Errorf("New(%d): %v, error %d, want none and ErrArg", n, f, e)
		}
	}
}

func TestNewFlashIsErasedUnwornAndUp(t *testing.T) {
	for _, n := range []int{8, 256} {
		f := newFlash(t, n)
		if !bytes.Equal(contents(t, f), bytes.Repeat([]byte{255}, n*api.Sector)) {
			t.Errorf("New(%d): not all bytes are 255", n)
		}
		_, e := f.Read(n*api.Sector, 1)
		want(t, "Read behind the end", e, api.ErrBounds)
		for s := range n {
			wantWear(t, f, s, 0)
		}
		if f.Down() {
			t.Error("a new flash is down")
		}
	}
}

func TestFlashesAreSeparate(t *testing.T) {
	one, two := newFlash(t, 8), newFlash(t, 8)
	want(t, "Program", one.Program(0, make([]byte, 4)), api.OK)
	want(t, "Erase", one.Erase(1), api.OK)
	want(t, "Arm", one.Arm(0, nil), api.OK)
	want(t, "torn Erase", one.Erase(1), api.ErrDown)
	wantBytes(t, two, 0, 255, 255, 255, 255)
	wantWear(t, two, 1, 0)
	if two.Down() {
		t.Error("the power of one flash failed for the other one")
	}
}

func TestWearCountsErasesOfEachSector(t *testing.T) {
	f := newFlash(t, 8)
	for s := range 8 {
		for range s {
			want(t, "Erase", f.Erase(s), api.OK)
		}
	}
	for s := range 8 {
		wantWear(t, f, s, s)
	}
	want(t, "Program", f.Program(0, make([]byte, 4)), api.OK)
	wantWear(t, f, 0, 0)
	for _, s := range []int{-1, 8, 256, math.MaxInt, math.MinInt} {
		wantWear(t, f, s, 0)
	}
}

func TestCopyIsTheSameAndSeparate(t *testing.T) {
	f := newFlash(t, 9)
	want(t, "Program", f.Program(4, []byte{1, 2, 3, 4}), api.OK)
	want(t, "Erase", f.Erase(2), api.OK)
	c := f.Copy()
	if c == nil || c == f || c.Sectors() != 9 || c.Down() {
		t.Fatal("no copy of its own")
	}
	wantBytes(t, c, 0, 255, 255, 255, 255, 1, 2, 3, 4)
	wantWear(t, c, 2, 1)

	want(t, "Program of the copy", c.Program(4, make([]byte, 4)), api.OK)
	want(t, "Erase of the copy", c.Erase(2), api.OK)
	wantBytes(t, f, 4, 1, 2, 3, 4)
	wantWear(t, f, 2, 1)
	want(t, "Erase", f.Erase(0), api.OK)
	wantBytes(t, c, 4, 0, 0, 0, 0)
	wantWear(t, c, 0, 0)
}

func TestCopyIsArmedAlike(t *testing.T) {
	f := newFlash(t, 8)
	want(t, "Arm", f.Arm(2, []byte{3, 5}), api.OK)
	want(t, "Program", f.Program(0, make([]byte, 4)), api.OK)
	c := f.Copy()
	for _, x := range []*flash.Flash{f, c} { // had they one number, the second one would find less
		want(t, "Program", x.Program(4, make([]byte, 4)), api.OK)
		want(t, "torn Program", x.Program(8, make([]byte, 4)), api.ErrDown)
	}
	want(t, "Up", f.Up(), api.OK)
	if f.Down() || !c.Down() {
		t.Error("Up of a flash is its own, not its copy's")
	}
	want(t, "Up of the copy", c.Up(), api.OK)
	for _, x := range []*flash.Flash{f, c} {
		wantBytes(t, x, 4, 0, 0, 0, 0, 252, 250, 255, 255)
	}
}

func TestCopyIsDownAlike(t *testing.T) {
	f := newFlash(t, 8)
	want(t, "Program", f.Program(0, []byte{9, 9, 9, 9}), api.OK)
	want(t, "Arm", f.Arm(0, []byte{1}), api.OK)
	want(t, "torn Erase", f.Erase(0), api.ErrDown)
	c := f.Copy()
	if c == nil || !c.Down() || c.Sectors() != 8 {
		t.Fatal("a copy of a flash that is down is down")
	}
	wantWear(t, c, 0, 1)
	want(t, "Up", c.Up(), api.OK)
	wantBytes(t, c, 0, 1, 0, 0, 0)
	if !f.Down() {
		t.Error("Up of a copy turned its original on")
	}
}

func TestReadEdges(t *testing.T) {
	f := newFlash(t, 8)
	end := 8 * api.Sector
	want(t, "Program", f.Program(end-8, []byte{1, 2, 3, 4, 5, 6, 7, 8}), api.OK)
	wantBytes(t, f, end-1, 8)
	wantBytes(t, f, end-5, 4, 5, 6) // neither position nor length is aligned
	for _, x := range []struct {
		at, n int
		e     api.Errno
	}{
		{0, 0, api.OK}, {3, 0, api.OK}, {end, 0, api.OK}, {0, end, api.OK},
		{0, end + 1, api.ErrBounds}, {1, end, api.ErrBounds}, {end, 1, api.ErrBounds}, {end + 1, 0, api.ErrBounds},
		{-1, 0, api.ErrBounds}, {-1, 1, api.ErrBounds}, {-4, 8, api.ErrBounds}, {0, -1, api.ErrBounds}, {8, -4, api.ErrBounds},
		{math.MaxInt, 1, api.ErrBounds}, {1, math.MaxInt, api.ErrBounds}, {math.MaxInt, math.MaxInt, api.ErrBounds},
		{math.MinInt, 1, api.ErrBounds}, {1, math.MinInt, api.ErrBounds}, {math.MinInt, math.MinInt, api.ErrBounds},
	} {
		b, e := f.Read(x.at, x.n)
		if e != x.e || e == api.OK && len(b) != x.n || e != api.OK && b != nil {
			t.Errorf("Read(%d, %d): %d bytes, error %d, want error %d", x.at, x.n, len(b), e, x.e)
		}
	}
}

func TestReadReturnsMemoryOfItsOwn(t *testing.T) {
	f := newFlash(t, 8)
	one, _ := f.Read(0, 4)
	two, _ := f.Read(0, 4)
	copy(one, []byte{1, 2, 3, 4})
	_ = append(one[:2], 9, 9, 9, 9)
	wantBytes(t, f, 0, 255, 255, 255, 255, 255, 255)
	if !bytes.Equal(two, []byte{255, 255, 255, 255}) {
		t.Error("two reads share memory")
	}
	want(t, "Program", f.Program(0, make([]byte, 4)), api.OK)
	if !bytes.Equal(two, []byte{255, 255, 255, 255}) {
		t.Error("what was read changes with the flash")
	}
}

func TestProgramKeepsBitsThatBothHave(t *testing.T) {
	f := newFlash(t, 8)
	want(t, "Program", f.Program(4, []byte{15, 15, 15, 15}), api.OK)
	want(t, "Program", f.Program(4, []byte{240, 255, 0, 1}), api.OK)
	wantBytes(t, f, 0, 255, 255, 255, 255, 0, 15, 0, 1, 255)
}

func TestProgramOfManySectorsAtOnce(t *testing.T) {
	f := newFlash(t, 8)
	before := contents(t, f)
	b := bytes.Repeat([]byte{1, 2, 3, 4}, api.Sector)
	want(t, "Program", f.Program(252, b), api.OK)
	wantBytes(t, f, 252, b...)
	wantOnly(t, f, before, 252, len(b))
	all := make([]byte, 8*api.Sector)
	want(t, "Program of everything", f.Program(0, all), api.OK)
	wantBytes(t, f, 0, all...)
}

func TestProgramEdges(t *testing.T) {
	f := newFlash(t, 8)
	end := 8 * api.Sector
	for _, x := range []struct {
		at, n int
		e     api.Errno
	}{
		{0, 4, api.OK}, {end - 4, 4, api.OK}, {0, 0, api.OK}, {end, 0, api.OK},
		{end, 4, api.ErrBounds}, {end - 4, 8, api.ErrBounds}, {0, end + 4, api.ErrBounds}, {-4, 4, api.ErrBounds}, {-4, 8, api.ErrBounds},
		{-4, 0, api.ErrBounds}, {end + 4, 0, api.ErrBounds}, {math.MaxInt - 3, 4, api.ErrBounds}, {math.MinInt, 4, api.ErrBounds},
		{2, 4, api.ErrAlign}, {1, 4, api.ErrAlign}, {3, 3, api.ErrAlign}, {0, 1, api.ErrAlign}, {0, 2, api.ErrAlign}, {0, 3, api.ErrAlign}, {8, 6, api.ErrAlign}, {2, 0, api.ErrAlign}, {2, 2, api.ErrAlign},
		{end - 2, 4, api.ErrBounds}, {end - 1, 3, api.ErrBounds}, {-1, 3, api.ErrBounds}, {end + 1, 0, api.ErrBounds}, {math.MaxInt, 3, api.ErrBounds},
	} {
		if e := f.Program(x.at, bytes.Repeat([]byte{255}, x.n)); e != x.e {
			t.Errorf("Program(%d, %d bytes): error %d, want %d", x.at, x.n, e, x.e)
		}
	}
}

func TestWhatIsRefusedChangesNothing(t *testing.T) {
	f := newFlash(t, 8)
	end := 8 * api.Sector
	before := contents(t, f)
	for _, x := range []struct{ at, n int }{{2, 4}, {0, 3}, {-4, 8}, {end - 4, 8}, {end, 4}} {
		if f.Program(x.at, make([]byte, x.n)) == api.OK {
			t.Errorf("Program(%d, %d bytes) is not refused", x.at, x.n)
		}
	}
	wantOnly(t, f, before, 0, 0)
}

func TestProgramNeitherChangesNorKeepsItsBytes(t *testing.T) {
	f := newFlash(t, 8)
	whole := []byte{1, 2, 3, 4, 5, 6, 7, 8}
	want(t, "Program", f.Program(0, whole[:4]), api.OK)
	want(t, "Arm", f.Arm(0, []byte{255}), api.OK)
	want(t, "torn Program", f.Program(0, whole[:4]), api.ErrDown)
	want(t, "Up", f.Up(), api.OK)
	if !bytes.Equal(whole, []byte{1, 2, 3, 4, 5, 6, 7, 8}) {
		t.Error("Program changed its argument")
	}
	clear(whole)
	wantBytes(t, f, 0, 1, 2, 3, 4, 255, 255, 255, 255)
}

func TestEraseSetsOneSector(t *testing.T) {
	f := newFlash(t, 8)
	want(t, "Program", f.Program(0, make([]byte, 8*api.Sector)), api.OK)
	before := contents(t, f)
	want(t, "Erase", f.Erase(3), api.OK)
	wantBytes(t, f, 3*api.Sector, bytes.Repeat([]byte{255}, api.Sector)...)
	wantOnly(t, f, before, 3*api.Sector, api.Sector)
	want(t, "Erase of the first one", f.Erase(0), api.OK)
	want(t, "Erase of the last one", f.Erase(7), api.OK)
	wantBytes(t, f, 0, 255, 255)
	wantBytes(t, f, 8*api.Sector-2, 255, 255)
	for _, s := range []int{-1, 8, 256, math.MaxInt, math.MinInt, math.MaxInt/api.Sector + 1} {
		want(t, "Erase of no sector", f.Erase(s), api.ErrBounds)
	}
	for s, n := range []int{1, 0, 0, 1, 0, 0, 0, 1} {
		wantWear(t, f, s, n)
	}
}
