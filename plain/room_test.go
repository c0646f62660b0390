package plain_test

import (
	"fmt"
	"slices"
	"testing"

	"lightship/api"
	"lightship/plain"
)

// filler returns cells that nothing here takes.
func filler(n int) []uint32 {
	return slices.Repeat([]uint32{1000}, n)
}

// P12.1, P12.2: stacks with just as many cells as are taken, and just as much room as is given; the number of cells changes by what is given less what is taken.
func TestJustEnough(t *testing.T) {
	for _, p := range primitives() {
		in := sample(p)
		after := len(in) - p.takes + p.gives
		for spare := range 3 {
			k := made(t, room{max(len(in), after, 1) + spare, 3}, in, []uint32{9})
			want(t, p.name, k.do(p.name), api.ThrowNone)
			want(t, p.name+": cells", k.s.Len(), after)
		}
	}
}

// P12.1: with less cells than are taken each primitive throws for them, and nothing changes, however little room there is.
func TestTooFewCells(t *testing.T) {
	for _, p := range primitives() {
		for n := range p.takes {
			for _, most := range []int{max(n, 1), n + 1, n + 2, 100} {
				for _, in := range [][]uint32{filler(n), slices.Repeat([]uint32{0}, n), slices.Repeat([]uint32{ram}, n)} {
					k := made(t, room{most, 2}, in, []uint32{9})
					want(t, fmt.Sprint(p.name, " with ", n), k.do(p.name), under)
					k.wantState(t, p.name, in, []uint32{9})
				}
			}
		}
	}
}

// P12.1: with less room than is given each primitive throws for it, and nothing changes.
func TestTooLittleRoom(t *testing.T) {
	for _, p := range primitives() {
		in := sample(p)
		after := len(in) - p.takes + p.gives
		for most := max(len(in), 1); most < after; most++ {
			k := made(t, room{most, 2}, in, []uint32{9})
			want(t, fmt.Sprint(p.name, " with room for ", most), k.do(p.name), over)
			k.wantState(t, p.name, in, []uint32{9})
		}
		for n := len(in); n < 9 && p.gives > p.takes; n++ {
			full := slices.Concat(filler(n-len(in)), in)
			for missing := 1; missing <= p.gives-p.takes; missing++ {
				most := n + p.gives - p.takes - missing
				if most < 1 {
					continue
				}
				k := made(t, room{most, 2}, full, []uint32{9})
				want(t, fmt.Sprint(p.name, " with room for ", most), k.do(p.name), over)
				k.wantState(t, p.name, full, []uint32{9})
			}
		}
	}
}

// P12.1: those that give no more than they take need no room on a full stack.
func TestFullStack(t *testing.T) {
	for _, p := range primitives() {
		if p.gives > p.takes {
			continue
		}
		for below := range 4 {
			in := slices.Concat(filler(below), sample(p))
			k := made(t, room{len(in), 2}, in, []uint32{9})
			want(t, p.name+" on a full stack", k.do(p.name), api.ThrowNone)
			want(t, p.name+": cells", k.s.Len(), len(in)-p.takes+p.gives)
		}
	}
}

// P12.1: ?DUP needs room for another cell than 0, and no room for 0.
func TestMaybeDupOnAFullStack(t *testing.T) {
	for _, below := range []int{0, 1, 7} {
		zero := append(filler(below), 0)
		k := made(t, room{below + 1, 2}, zero, []uint32{9})
		want(t, "?DUP of 0", k.do("?DUP"), api.ThrowNone)
		k.wantState(t, "?DUP of 0", zero, []uint32{9})
		for _, x := range []uint32{1, 256, 1 << 16, 1 << 31, 1<<32 - 1} {
			other := append(filler(below), x)
			k = made(t, room{below + 1, 2}, other, []uint32{9})
			want(t, "?DUP of another one", k.do("?DUP"), over)
			k.wantState(t, "?DUP of another one", other, []uint32{9})
			k = made(t, room{below + 2, 2}, other, []uint32{9})
			want(t, "?DUP of another one", k.do("?DUP"), api.ThrowNone)
			k.wantState(t, "?DUP of another one", append(other, x), []uint32{9})
		}
	}
	k := made(t, room{1, 1}, nil, nil)
	want(t, "?DUP of none", k.do("?DUP"), under)
	k.wantState(t, "?DUP of none", nil, nil)
}

// P12.1: what the data stack is thrown for comes ahead of what memory, the return stack and divisions throw.
func TestDataStackFirst(t *testing.T) {
	for _, c := range []struct {
		name  string
		data  []uint32
		back  []uint32
		throw api.Throw
	}{
		{"COUNT", []uint32{0, 5}, nil, over},
		{"2@", []uint32{0, ram + 1}, nil, over},
		{"2@", []uint32{0, 5}, nil, over},
		{"R>", []uint32{0, 5}, nil, over},
		{"R@", []uint32{0, 5}, nil, over},
		{"!", []uint32{ram + 1}, nil, under},
		{"C!", []uint32{win}, nil, under},
		{"+!", []uint32{5}, nil, under},
		{"2!", []uint32{5, ram + 1}, nil, under},
		{"MOVE", []uint32{5, 5}, nil, under},
		{"FILL", []uint32{5, 5}, nil, under},
		{"/", []uint32{0}, nil, under},
		{"*/", []uint32{0, 0}, nil, under},
		{"UM/MOD", []uint32{0, 0}, nil, under},
		{">R", nil, []uint32{1, 2}, under},
		{">R", []uint32{5}, []uint32{1, 2}, rOver},
		{"R>", []uint32{5}, nil, rUnder},
		{"R@", []uint32{5}, nil, rUnder},
	} {
		k := made(t, room{2, 2}, c.data, c.back)
		want(t, c.name, k.do(c.name), c.throw)
		k.wantState(t, c.name, c.data, c.back)
	}
}

// P12.1: the greatest stacks.
func TestGreatStacks(t *testing.T) {
	in := make([]uint32, api.MaxStack)
	for i := range in {
		in[i] = uint32(i) * 7
	}
	lowest := uint32(len(in) - 2)
	in[len(in)-1] = lowest
	k := made(t, room{len(in), 4}, in, nil)
	want(t, "PICK", k.do("PICK"), api.ThrowNone)
	k.wantState(t, "PICK", append(slices.Clone(in[:len(in)-1]), 0), nil)
	k = made(t, room{len(in), 4}, in, nil)
	want(t, "ROLL", k.do("ROLL"), api.ThrowNone)
	k.wantState(t, "ROLL", append(slices.Clone(in[1:len(in)-1]), 0), nil)
	for _, u := range []uint32{lowest + 1, lowest + 2, api.MaxStack, api.MaxStack + 1, 1 << 31, 1<<32 - 2, 1<<32 - 1} {
		in[len(in)-1] = u
		for _, name := range []string{"PICK", "ROLL"} {
			k = made(t, room{len(in), 4}, in, nil)
			want(t, name, k.do(name), under)
			k.wantState(t, name, in, nil)
		}
	}
	want(t, "DEPTH on a full stack", k.do("DEPTH"), over)
	k.s.Pop()
	want(t, "DEPTH", k.do("DEPTH"), api.ThrowNone)
	top, _ := k.s.Peek(0)
	want(t, "DEPTH", top, api.MaxStack-1)
}

// P12.1, P12.2: the return stack, from empty to full and back: what is moved there comes back, the last one first.
func TestReturnStack(t *testing.T) {
	const most = 5
	in := []uint32{11, 12, 13, 14, 15, 16, 17}
	k := made(t, room{len(in), most}, in, nil)
	for _, name := range []string{"R>", "R@"} {
		k.s.Cut(len(in) - 1)
		want(t, name+" of none", k.do(name), rUnder)
		k.wantState(t, name+" of none", in[:len(in)-1], nil)
	}
	k.s.Push(17)
	var back []uint32
	for i := range most {
		x := in[len(in)-1-i]
		want(t, ">R", k.do(">R"), api.ThrowNone)
		back = append(back, x)
		k.wantState(t, ">R", in[:len(in)-1-i], back)
		want(t, "R@", k.do("R@"), api.ThrowNone)
		k.wantState(t, "R@", append(slices.Clone(in[:len(in)-1-i]), x), back)
		k.s.Pop()
	}
	want(t, ">R to a full one", k.do(">R"), rOver)
	k.wantState(t, ">R to a full one", in[:2], back)
	for i := range most {
		want(t, "R>", k.do("R>"), api.ThrowNone)
		k.wantState(t, "R>", in[:3+i], back[:most-1-i])
	}
	want(t, "R> to a full one", k.do("R>"), over)
	want(t, "R@ to a full one", k.do("R@"), over)
	k.wantState(t, "R>", in, nil)
}

// P12.1: what does not need the return stack leaves it alone, and works with a full one.
func TestReturnStackStays(t *testing.T) {
	for _, p := range primitives() {
		if p.name == ">R" || p.name == "R>" {
			continue
		}
		k := made(t, room{9, 2}, sample(p), []uint32{8, 9})
		want(t, p.name, plain.Do(p.number, k.s, k.r, k.m), api.ThrowNone)
		wantAll(t, p.name, k.r.All(), []uint32{8, 9})
	}
}
