package vm_test

import (
	"strconv"
	"testing"

	"lightship/api"
)

// P14.2: HERE, BASE and STATE are addresses; BASE has 10 at first, STATE 0.
func TestAddresses(t *testing.T) {
	wantCode(t, "HERE BASE STATE EXIT", api.ThrowNone, "0x100050 0x100000 0x100004", "")
	wantCode(t, "BASE @ STATE @ EXIT", api.ThrowNone, "10 0", "")
	wantCode(t, "(LIT) 16 BASE ! (LIT) 255 . (LIT) 7 STATE ! STATE @ EXIT", api.ThrowNone, "7", "FF ")
	v := with(t, "(LIT) 16 BASE ! EXIT")
	v.Run(0, fuel)
	v.Clear()
	v.Run(0, 0)
	x, _ := v.Load(api.BaseAt)
	want(t, "BASE stays", x, 16)
}

// P14.2: ALLOT up and down, to the first address of data, and to that behind RAM; no further.
func TestAllot(t *testing.T) {
	for _, c := range []struct {
		at, n int64
		want  api.Throw
	}{
		{api.DataAt, 0, 0}, {api.DataAt, 1, 0}, {api.DataAt, 7, 0}, {api.DataAt, ram - 80, 0}, {api.DataAt, ram - 79, api.ThrowDict}, {api.DataAt, -1, api.ThrowDict}, {api.DataAt, -80, api.ThrowDict},
		{api.DataAt + 5, -5, 0}, {api.DataAt + 5, -6, api.ThrowDict}, {api.DataAt + 5, -1, 0}, {ends, 0, 0}, {ends, 1, api.ThrowDict}, {ends, -1, 0}, {ends, 80 - ram, 0}, {ends, 79 - ram, api.ThrowDict}, {ends - 1, 1, 0}, {ends - 1, 2, api.ThrowDict},
		{api.DataAt, 1<<31 - 1, api.ThrowDict}, {api.DataAt, -1 << 31, api.ThrowDict}, {ends, 1<<31 - 1, api.ThrowDict}, {ends, -1 << 31, api.ThrowDict}, {api.DataAt, api.WindowAt - api.DataAt, api.ThrowDict}, {api.DataAt, -api.DataAt, api.ThrowDict}, {api.DataAt, 1000, api.ThrowDict},
	} {
		v := with(t, "ALLOT EXIT")
		v.SetHere(uint32(c.at))
		v.Push(uint32(c.n))
		throw, _ := v.Run(0, fuel)
		what := "ALLOT of " + strconv.Itoa(int(c.n)) + " at " + strconv.Itoa(int(c.at))
		want(t, what, throw, c.want)
		if throw == api.ThrowNone {
			want(t, what, v.Here(), uint32(c.at+c.n))
			want(t, what, len(v.Data()), 0)
		} else {
			want(t, what, v.Here(), uint32(c.at))
			wantAll(t, what, v.Data(), []uint32{uint32(c.n)})
		}
	}
}

// P14.2: cells and bytes that are stored one behind the other.
func TestComma(t *testing.T) {
	v := with(t, "(LIT) 0x04030201 , (LIT) -1 , (LIT) 0x1fe C, (LIT) 7 C, HERE EXIT")
	wantRun(t, v, api.ThrowNone, "0x10005a", "")
	wantAll(t, "RAM", v.Ram()[76:92], []byte{0, 0, 0, 0, 1, 2, 3, 4, 255, 255, 255, 255, 254, 7, 0, 0})
	for _, c := range []struct {
		name    string
		at      uint32
		want    api.Throw
		further uint32
	}{
		{",", api.DataAt, 0, 4}, {",", ends - 4, 0, 4}, {",", ends, api.ThrowDict, 0}, {",", ends - 1, api.ThrowAlign, 0}, {",", ends - 2, api.ThrowAlign, 0}, {",", ends - 3, api.ThrowAlign, 0}, {",", api.DataAt + 1, api.ThrowAlign, 0}, {",", api.DataAt + 2, api.ThrowAlign, 0}, {",", api.DataAt + 3, api.ThrowAlign, 0},
		{"C,", api.DataAt, 0, 1}, {"C,", api.DataAt + 1, 0, 1}, {"C,", ends - 1, 0, 1}, {"C,", ends, api.ThrowDict, 0},
	} {
		v := with(t, c.name+" EXIT")
		v.SetHere(c.at)
		v.Push(0x1234)
		before := v.Ram()
		throw, _ := v.Run(0, fuel)
		what := c.name + " at " + strconv.Itoa(int(c.at))
		want(t, what, throw, c.want)
		want(t, what, v.Here(), c.at+c.further)
		switch c.further {
		case 4:
			before[c.at-api.RamAt], before[c.at-api.RamAt+1] = 0x34, 0x12
		case 1:
			before[c.at-api.RamAt] = 0x34
		}
		wantAll(t, what, v.Ram(), before)
		want(t, what, len(v.Data()), map[bool]int{true: 1, false: 0}[throw != 0])
	}
}

// P14.2: the next multiple of 4, or here itself.
func TestAlign(t *testing.T) {
	for at := uint32(api.DataAt); at <= ends; at++ {
		v := with(t, "ALIGN EXIT")
		v.SetHere(at)
		wantRun(t, v, api.ThrowNone, "", "")
		wanted := at
		for wanted%4 != 0 {
			wanted++
		}
		want(t, "ALIGN at "+strconv.Itoa(int(at)), v.Here(), wanted)
	}
}

// P14.2: bytes of RAM stay as they are when here moves.
func TestAllotLeavesBytes(t *testing.T) {
	v := with(t, "(LIT) 5 , (LIT) -4 ALLOT ALIGN HERE @ (LIT) 8 ALLOT EXIT")
	wantRun(t, v, api.ThrowNone, "5", "")
	want(t, "here", v.Here(), api.DataAt+8)
	want(t, "bytes", v.Ram()[80], 5)
}
