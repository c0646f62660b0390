package flash_test

import (
	"bytes"
	"math"
	"testing"

	"lightship/api"
	"lightship/flash"
)

func TestTornProgramClearsBitsOfTheMask(t *testing.T) {
	f := newFlash(t, 8)
	want(t, "Program", f.Program(8, []byte{255, 255, 255, 15}), api.OK)
	before := contents(t, f)
	want(t, "Arm", f.Arm(0, []byte{255, 1, 0, 255}), api.OK)
	want(t, "torn Program", f.Program(8, []byte{0, 0, 0, 240}), api.ErrDown)
	if !f.Down() {
		t.Error("the power is on behind a torn program")
	}
	want(t, "Up", f.Up(), api.OK)
	wantBytes(t, f, 8, 0, 254, 255, 0)
	wantOnly(t, f, before, 8, 4)
}

func TestTornEraseLeavesTheMask(t *testing.T) {
	f := newFlash(t, 8)
	want(t, "Program", f.Program(0, make([]byte, 8*api.Sector)), api.OK)
	before := contents(t, f)
	mask := make([]byte, api.Sector)
	for i := range mask {
		mask[i] = byte(255 - i)
	}
	want(t, "Arm", f.Arm(0, mask), api.OK)
	want(t, "torn Erase", f.Erase(2), api.ErrDown)
	if !f.Down() {
		t.Error("the power is on behind a torn erase")
	}
	wantWear(t, f, 2, 1)
	want(t, "Up", f.Up(), api.OK)
	wantBytes(t, f, 2*api.Sector, mask...)
	wantOnly(t, f, before, 2*api.Sector, api.Sector)
	wantWear(t, f, 2, 1)
	want(t, "Erase", f.Erase(2), api.OK)
	wantWear(t, f, 2, 2)
	wantWear(t, f, 1, 0)
}

func TestAMaskThatIsTooShortCountsAsZeros(t *testing.T) {
	for _, mask := range [][]byte{nil, {}, {7}, {7, 255, 255}} {
		f := newFlash(t, 8)
		want(t, "Arm", f.Arm(0, mask), api.OK)
		want(t, "torn Program", f.Program(api.Sector, make([]byte, 8)), api.ErrDown)
		want(t, "Up", f.Up(), api.OK)
		programmed := bytes.Repeat([]byte{255}, 8)
		for i, m := range mask {
			programmed[i] = ^m
		}
		wantBytes(t, f, api.Sector, programmed...)

		want(t, "Arm", f.Arm(0, mask), api.OK)
		want(t, "torn Erase", f.Erase(0), api.ErrDown)
		want(t, "Up", f.Up(), api.OK)
		wantBytes(t, f, 0, append(bytes.Clone(mask), make([]byte, api.Sector-len(mask))...)...)
	}
}

func TestAMaskThatIsLongerThanAnOperation(t *testing.T) {
	f := newFlash(t, 8)
	before := contents(t, f)
	long := bytes.Repeat([]byte{1}, 9*api.Sector)
	want(t, "Arm", f.Arm(0, long), api.OK)
	want(t, "torn Program", f.Program(4, make([]byte, 4)), api.ErrDown)
	want(t, "Up", f.Up(), api.OK)
	wantBytes(t, f, 4, 254, 254, 254, 254)
	wantOnly(t, f, before, 4, 4)

	want(t, "Arm", f.Arm(0, long), api.OK)
	want(t, "torn Program of everything", f.Program(0, make([]byte, 8*api.Sector)), api.ErrDown)
	want(t, "Up", f.Up(), api.OK)
	wantBytes(t, f, 0, bytes.Repeat([]byte{254}, 8*api.Sector)...)

	before = contents(t, f)
	want(t, "Arm", f.Arm(0, long), api.OK)
	want(t, "torn Erase", f.Erase(1), api.ErrDown)
	want(t, "Up", f.Up(), api.OK)
	wantBytes(t, f, api.Sector, bytes.Repeat([]byte{1}, api.Sector)...)
	wantOnly(t, f, before, api.Sector, api.Sector)
}

func TestArmCountsProgramsAndErases(t *testing.T) {
	for n := range 6 {
		f := newFlash(t, 8)
		want(t, "Arm", f.Arm(n, nil), api.OK)
		for i := range n {
			if i%2 == 0 {
				want(t, "Program", f.Program(4*i, make([]byte, 4)), api.OK)
			} else {
				want(t, "Erase", f.Erase(i), api.OK)
			}
		}
		if f.Down() {
			t.Errorf("armed with %d, down too early", n)
		}
		if n%2 == 0 {
			want(t, "torn Erase", f.Erase(0), api.ErrDown)
		} else {
			want(t, "torn Program", f.Program(0, make([]byte, 4)), api.ErrDown)
		}
		if !f.Down() {
			t.Errorf("armed with %d, not down", n)
		}
	}
}

func TestWhatIsNotDoneDoesNotCount(t *testing.T) {
	f := newFlash(t, 8)
	end := 8 * api.Sector
	want(t, "Arm", f.Arm(1, []byte{255}), api.OK)
	for range 3 {
		want(t, "Program of bounds", f.Program(end, make([]byte, 4)), api.ErrBounds)
		want(t, "Program of alignment", f.Program(2, make([]byte, 4)), api.ErrAlign)
		want(t, "Program of no bytes", f.Program(0, nil), api.OK)
		want(t, "Program of no bytes at the end", f.Program(end, []byte{}), api.OK)
		want(t, "Erase of bounds", f.Erase(8), api.ErrBounds)
		want(t, "Arm below 0", f.Arm(-1, []byte{9}), api.ErrArg)
		contents(t, f)
	}
	want(t, "Erase", f.Erase(0), api.OK) // it finds 1
	want(t, "Program of no bytes at an armed 0", f.Program(0, nil), api.OK)
	want(t, "Program of alignment at an armed 0", f.Program(1, nil), api.ErrAlign)
	want(t, "Erase of bounds at an armed 0", f.Erase(-1), api.ErrBounds)
	if f.Down() {
		t.Error("what is not done was torn")
	}
	want(t, "torn Program", f.Program(0, make([]byte, 4)), api.ErrDown)
	want(t, "Up", f.Up(), api.OK)
	wantBytes(t, f, 0, 0, 255, 255, 255)
	wantWear(t, f, 0, 1)
}

func TestWhatChangesNothingCountsStill(t *testing.T) {
	f := newFlash(t, 8)
	want(t, "Arm", f.Arm(1, nil), api.OK)
	want(t, "Program of ones", f.Program(0, []byte{255, 255, 255, 255}), api.OK)
	want(t, "torn Program of ones", f.Program(0, []byte{255, 255, 255, 255}), api.ErrDown)
}

func TestArmReplacesWhatWasArmed(t *testing.T) {
	f := newFlash(t, 8)
	want(t, "Arm", f.Arm(0, []byte{1, 1, 1, 1}), api.OK)
	want(t, "Arm again", f.Arm(1, []byte{2}), api.OK)
	want(t, "Program", f.Program(4, make([]byte, 4)), api.OK)
	want(t, "torn Program", f.Program(0, make([]byte, 4)), api.ErrDown)
	want(t, "Up", f.Up(), api.OK)
	wantBytes(t, f, 0, 253, 255, 255, 255, 0, 0, 0, 0)

	want(t, "Arm", f.Arm(0, nil), api.OK)
	want(t, "Arm with the greatest number", f.Arm(math.MaxInt, nil), api.OK)
	want(t, "Erase", f.Erase(0), api.OK)
}

func TestArmRejectsNumbersBelowZero(t *testing.T) {
	f := newFlash(t, 8)
	want(t, "Arm(-1)", f.Arm(-1, []byte{255}), api.ErrArg)
	want(t, "Arm of the least number", f.Arm(math.MinInt, nil), api.ErrArg)
	for range 3 {
		want(t, "Erase", f.Erase(0), api.OK)
	}
	want(t, "Arm", f.Arm(0, []byte{4}), api.OK)
	want(t, "Arm(-1)", f.Arm(-1, []byte{255}), api.ErrArg) // what was armed stays
	want(t, "torn Erase", f.Erase(0), api.ErrDown)
	want(t, "Up", f.Up(), api.OK)
	wantBytes(t, f, 0, 4, 0)
}

func TestArmNeitherChangesNorKeepsItsMask(t *testing.T) {
	f := newFlash(t, 8)
	mask := []byte{1, 2, 3, 4, 5, 6}
	want(t, "Arm", f.Arm(0, mask[:3]), api.OK)
	copy(mask, []byte{9, 9, 9})
	want(t, "torn Erase", f.Erase(0), api.ErrDown)
	want(t, "Up", f.Up(), api.OK)
	wantBytes(t, f, 0, 1, 2, 3, 0, 0)
	if !bytes.Equal(mask, []byte{9, 9, 9, 4, 5, 6}) {
		t.Error("Arm changed its argument")
	}
}

func TestUpTurnsOnAndDisarms(t *testing.T) {
	f := newFlash(t, 8)
	want(t, "Up of a flash that is on", f.Up(), api.OK)
	want(t, "Arm", f.Arm(0, nil), api.OK)
	want(t, "Up of a flash that is armed", f.Up(), api.OK)
	want(t, "Erase", f.Erase(0), api.OK)
	want(t, "Arm", f.Arm(0, nil), api.OK)
	want(t, "torn Erase", f.Erase(0), api.ErrDown)
	want(t, "Up", f.Up(), api.OK)
	if f.Down() {
		t.Error("down behind Up")
	}
	for range 3 { // what failed is not armed any more
		want(t, "Erase", f.Erase(0), api.OK)
		want(t, "Program", f.Program(0, make([]byte, 4)), api.OK)
	}
}

func TestNothingIsDoneWithoutPower(t *testing.T) {
	f := newFlash(t, 8)
	want(t, "Program", f.Program(0, []byte{1, 2, 3, 4}), api.OK)
	want(t, "Arm", f.Arm(0, nil), api.OK)
	want(t, "torn Program", f.Program(0, make([]byte, 4)), api.ErrDown)
	for range 2 {
		want(t, "Program", f.Program(0, make([]byte, 4)), api.ErrDown)
		want(t, "Program of no bytes", f.Program(0, nil), api.ErrDown)
		want(t, "Erase", f.Erase(0), api.ErrDown)
		want(t, "Arm", f.Arm(5, nil), api.ErrDown)
		b, e := f.Read(0, 4)
		want(t, "Read", e, api.ErrDown)
		if b != nil {
			t.Error("Read returned bytes without power")
		}
	}
	if !f.Down() || f.Sectors() != 8 {
		t.Error("Down and Sectors need no power")
	}
	wantWear(t, f, 0, 0)
	want(t, "Up", f.Up(), api.OK)
	wantBytes(t, f, 0, 1, 2, 3, 4)
}

func TestErrorsComeInTheirOrder(t *testing.T) {
	f := newFlash(t, 8)
	end := 8 * api.Sector
	want(t, "Arm", f.Arm(0, nil), api.OK)
	want(t, "Program of bounds, alignment and armed", f.Program(end+1, make([]byte, 3)), api.ErrBounds)
	want(t, "Program of alignment and armed", f.Program(1, make([]byte, 3)), api.ErrAlign)
	want(t, "Erase of bounds and armed", f.Erase(8), api.ErrBounds)
	want(t, "torn Erase", f.Erase(0), api.ErrDown)

	_, e := f.Read(-1, end)
	want(t, "Read of down and bounds", e, api.ErrDown)
	want(t, "Program of down and bounds", f.Program(-1, make([]byte, 4)), api.ErrDown)
	want(t, "Program of down and alignment", f.Program(1, make([]byte, 3)), api.ErrDown)
	want(t, "Erase of down and bounds", f.Erase(8), api.ErrDown)
	want(t, "Arm of down and below 0", f.Arm(-1, nil), api.ErrDown)
}

func TestFlashesThatAreNone(t *testing.T) {
	for name, f := range nones(t) {
		if f.Sectors() != 0 || f.Wear(0) != 0 || f.Wear(-1) != 0 || f.Down() || f.Copy() != nil {
			t.Error(name + ": a result that is not zero")
		}
		for _, n := range []int{0, 4, -1, math.MaxInt} { // ErrNil goes ahead of all other errors
			b, e := f.Read(n, n)
			want(t, name+": Read", e, api.ErrNil)
			if b != nil {
				t.Error(name + ": Read returned bytes")
			}
			want(t, name+": Program", f.Program(n, make([]byte, 3)), api.ErrNil)
			want(t, name+": Program of no bytes", f.Program(n, nil), api.ErrNil)
			want(t, name+": Erase", f.Erase(n), api.ErrNil)
			want(t, name+": Arm", f.Arm(n, nil), api.ErrNil)
		}
		want(t, name+": Up", f.Up(), api.ErrNil)
	}
}

func TestAFlashByValueDoesNotReachItsOriginal(t *testing.T) {
	f := newFlash(t, 8)
	byValue := *f
	want(t, "Program", byValue.Program(0, make([]byte, 4)), api.ErrNil)
	want(t, "Erase", byValue.Erase(0), api.ErrNil)
	wantBytes(t, f, 0, 255, 255, 255, 255)
	wantWear(t, f, 0, 0)
}

// Each of a sector's bytes has another new value, so that one program tries all of them on an old one.
func allBytes() []byte {
	b := make([]byte, api.Sector)
	for i := range b {
		b[i] = byte(i)
	}
	return b
}

func TestConsequencesForAllBytes(t *testing.T) {
	f := newFlash(t, 8)
	fresh := allBytes()
	for old := range 256 {
		for _, mask := range []byte{0, 1, 15, 85, 170, 240, 254, 255} {
			before := bytes.Repeat([]byte{byte(old)}, api.Sector)
			want(t, "Erase", f.Erase(1), api.OK)
			want(t, "Program of the old ones", f.Program(api.Sector, before), api.OK)
			want(t, "Arm", f.Arm(0, bytes.Repeat([]byte{mask}, api.Sector)), api.OK)
			want(t, "torn Program", f.Program(api.Sector, fresh), api.ErrDown)
			want(t, "Up", f.Up(), api.OK)
			torn, _ := f.Read(api.Sector, api.Sector)
			want(t, "Program again", f.Program(api.Sector, fresh), api.OK)
			again, _ := f.Read(api.Sector, api.Sector)
			for i := range fresh {
				consequences(t, byte(old), fresh[i], mask, torn[i], again[i])
			}
		}
	}
	wantBytes(t, f, 0, bytes.Repeat([]byte{255}, api.Sector)...)
	wantBytes(t, f, 2*api.Sector, bytes.Repeat([]byte{255}, 6*api.Sector)...)
}

func consequences(t *testing.T, old, fresh, mask, torn, again byte) {
	t.Helper()
	switch {
	case torn&^old != 0 || again&^torn != 0:
		t.Errorf("%d programmed with %d by %d: %d, %d: a bit was set", old, fresh, mask, torn, again)
	case old&fresh&^torn != 0 || old&fresh&^again != 0:
		t.Errorf("%d programmed with %d by %d: %d, %d: a bit was cleared that should not be", old, fresh, mask, torn, again)
	case again != old&fresh:
		t.Errorf("%d programmed with %d by %d: %d, %d: a bit was not cleared", old, fresh, mask, torn, again)
	case torn&mask&^fresh != 0 || (old^torn)&^mask != 0:
		t.Errorf("%d programmed with %d by %d: %d: not by the mask", old, fresh, mask, torn)
	}
}

func TestTornByOnesIsWholeByZerosIsNothing(t *testing.T) {
	b := bytes.Repeat([]byte{0, 240, 15, 255}, 16)
	for _, x := range []struct {
		mask byte
		want []byte
	}{{255, b}, {0, bytes.Repeat([]byte{255}, 64)}} {
		f := newFlash(t, 8)
		before := contents(t, f)
		want(t, "Arm", f.Arm(0, bytes.Repeat([]byte{x.mask}, 64)), api.OK)
		want(t, "torn Program", f.Program(64, b), api.ErrDown)
		want(t, "Up", f.Up(), api.OK)
		wantBytes(t, f, 64, x.want...)
		wantOnly(t, f, before, 64, 64)
	}
}

func TestExamplesOfTheChapter(t *testing.T) {
	f := newFlash(t, 8)
	wantBytes(t, f, 0, 255, 255, 255, 255)
	want(t, "Program", f.Program(4, []byte{15, 15, 15, 15}), api.OK)
	want(t, "Program", f.Program(4, []byte{240, 255, 0, 1}), api.OK)
	wantBytes(t, f, 4, 0, 15, 0, 1)
	want(t, "Program at 2", f.Program(2, make([]byte, 4)), api.ErrAlign)
	want(t, "Program of 3", f.Program(0, make([]byte, 3)), api.ErrAlign)
	want(t, "Program at 2048", f.Program(2048, make([]byte, 4)), api.ErrBounds)
	want(t, "Arm", f.Arm(0, []byte{255, 1}), api.OK)
	want(t, "torn Program", f.Program(8, make([]byte, 4)), api.ErrDown)
	_, e := f.Read(8, 4)
	want(t, "Read", e, api.ErrDown)
	want(t, "Up", f.Up(), api.OK)
	wantBytes(t, f, 8, 0, 254, 255, 255)
	want(t, "Arm", f.Arm(0, []byte{7}), api.OK)
	want(t, "torn Erase", f.Erase(0), api.ErrDown)
	want(t, "Up", f.Up(), api.OK)
	wantBytes(t, f, 0, append([]byte{7}, make([]byte, 255)...)...)
	wantWear(t, f, 0, 1)
	want(t, "Erase", f.Erase(0), api.OK)
	wantBytes(t, f, 0, bytes.Repeat([]byte{255}, 256)...)
	wantWear(t, f, 0, 2)
	_, e = flash.New(7)
	want(t, "New(7)", e, api.ErrArg)
}
