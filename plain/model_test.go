package plain_test

import (
	"fmt"
	"math/big"
	"slices"
	"strings"
	"testing"

	"lightship/api"
)

// model is both stacks and RAM, by the chapters' terms; the window is always the same. It is changed by none: what a primitive does is told as another one.
type model struct {
	data, back []uint32
	in         room
	ram        []byte
}

// do returns what a primitive makes of a model, and what is thrown; then the model is returned itself.
func (k model) do(p primitive) (model, api.Throw) {
	takes, gives := p.takes, p.gives
	if p.name == "?DUP" && len(k.data) > 0 && k.data[len(k.data)-1] != 0 {
		gives = 2
	}
	if len(k.data) < takes {
		return k, under
	}
	if len(k.data)-takes+gives > k.in.data {
		return k, over
	}
	rest, c := k.data[:len(k.data)-takes], k.data[len(k.data)-takes:]
	after := model{slices.Clone(rest), slices.Clone(k.back), k.in, slices.Clone(k.ram)}
	var given []uint32
	var throw api.Throw
	switch {
	case strings.Contains(" @ ! C@ C! +! 2@ 2! MOVE FILL COUNT ", " "+p.name+" "):
		given, throw = after.memory(p.name, c)
	case strings.Contains(" DEPTH PICK ROLL >R R> R@ ", " "+p.name+" "):
		given, throw = after.stacks(p.name, c)
	case strings.Contains(" / MOD /MOD */ */MOD UM/MOD FM/MOD SM/REM ", " "+p.name+" "):
		given, throw = quotients(p.name, c)
	default:
		given = others(p.name, c)
	}
	if throw != api.ThrowNone {
		return k, throw
	}
	after.data = append(after.data, given...)
	return after, api.ThrowNone
}

func (k *model) stacks(name string, c []uint32) ([]uint32, api.Throw) {
	n := len(k.data)
	if name == "PICK" || name == "ROLL" {
		if uint64(c[0]) >= uint64(n) {
			return nil, under
		}
		at := n - 1 - int(c[0])
		x := k.data[at]
		if name == "ROLL" {
			k.data = slices.Delete(k.data, at, at+1)
		}
		return []uint32{x}, api.ThrowNone
	}
	if name == "DEPTH" {
		return []uint32{uint32(n)}, api.ThrowNone
	}
	if name == ">R" {
		if len(k.back) == k.in.back {
			return nil, rOver
		}
		k.back = append(k.back, c[0])
		return nil, api.ThrowNone
	}
	if len(k.back) == 0 {
		return nil, rUnder
	}
	x := k.back[len(k.back)-1]
	if name == "R>" {
		k.back = k.back[:len(k.back)-1]
	}
	return []uint32{x}, api.ThrowNone
}

// row returns n bytes from an address on, one by one, so that those of RAM may be changed; and whether they are all there, and whether they are the window's.
func (k *model) row(at, n uint32) (l []*byte, there, window bool) {
	window = uint64(at) < ram
	first, all := uint64(ram), k.ram
	if window {
		first, all = win, rising(1, 12)
	}
	if uint64(at) < first || uint64(at)+uint64(n) > first+uint64(len(all)) {
		return nil, false, false
	}
	for i := range uint64(n) {
		l = append(l, &all[uint64(at)-first+i])
	}
	return l, true, window
}

// put makes the bytes from an address on others, n of them, unless one throws.
func (k *model) put(at, n uint32, b func(i int) byte) api.Throw {
	l, there, window := k.row(at, n)
	if !there {
		return memory
	}
	if window && n > 0 {
		return read
	}
	for i, p := range l {
		*p = b(i)
	}
	return api.ThrowNone
}

func (k *model) load(at uint32) (uint32, api.Throw) {
	if at%4 != 0 {
		return 0, align
	}
	l, there, _ := k.row(at, 4)
	if !there {
		return 0, memory
	}
	return uint32(*l[0]) + 256*(uint32(*l[1])+256*(uint32(*l[2])+256*uint32(*l[3]))), api.ThrowNone
}

func (k *model) store(at, x uint32) api.Throw {
	if at%4 != 0 {
		return align
	}
	return k.put(at, 4, func(i int) byte { return byte(x >> (8 * i)) })
}

func (k *model) memory(name string, c []uint32) ([]uint32, api.Throw) {
	switch name {
	case "@":
		x, throw := k.load(c[0])
		return []uint32{x}, throw
	case "2@":
		y, first := k.load(c[0])
		x, second := k.load(c[0] + 4)
		if first != api.ThrowNone {
			return nil, first
		}
		return []uint32{x, y}, second
	case "C@", "COUNT":
		l, there, _ := k.row(c[0], 1)
		if !there {
			return nil, memory
		}
		if name == "C@" {
			return []uint32{uint32(*l[0])}, api.ThrowNone
		}
		return []uint32{c[0] + 1, uint32(*l[0])}, api.ThrowNone
	case "!":
		return nil, k.store(c[1], c[0])
	case "C!":
		return nil, k.put(c[1], 1, func(int) byte { return byte(c[0]) })
	case "+!":
		x, throw := k.load(c[1])
		if throw != api.ThrowNone {
			return nil, throw
		}
		return nil, k.store(c[1], x+c[0])
	case "2!":
		if throw := k.store(c[2], c[1]); throw != api.ThrowNone {
			return nil, throw
		}
		return nil, k.store(c[2]+4, c[0])
	case "MOVE":
		l, there, _ := k.row(c[0], c[2])
		if !there {
			return nil, memory
		}
		var b []byte
		for _, p := range l {
			b = append(b, *p)
		}
		return nil, k.put(c[1], c[2], func(i int) byte { return b[i] })
	}
	return nil, k.put(c[0], c[1], func(int) byte { return byte(c[2]) }) // FILL
}

func signed(x uint32) *big.Int {
	n := unsigned(x)
	if x >= 1<<31 {
		n.Sub(n, big.NewInt(1<<32))
	}
	return n
}

func unsigned(x uint32) *big.Int {
	return big.NewInt(int64(x))
}

// doubleOf returns a double cell's number, whose high cell counts 2^32 times.
func doubleOf(low uint32, high *big.Int) *big.Int {
	d := new(big.Int).Lsh(high, 32)
	return d.Add(d, unsigned(low))
}

// lowest returns the n lowest cells of a number, modulo 2^32 to the n.
func lowest(d *big.Int, n int) []uint32 {
	m := new(big.Int).Mod(d, new(big.Int).Lsh(big.NewInt(1), uint(32*n)))
	var l []uint32
	for range n {
		l = append(l, uint32(m.Uint64()))
		m.Rsh(m, 32)
	}
	return l
}

// quotients returns what is given for a dividend and a divisor, which the name tells.
func quotients(name string, c []uint32) ([]uint32, api.Throw) {
	by := signed(c[len(c)-1])
	least, greatest := big.NewInt(-1<<31), big.NewInt(1<<31-1)
	var d *big.Int
	switch name {
	case "/", "MOD", "/MOD":
		d = signed(c[0])
	case "*/", "*/MOD":
		d = new(big.Int).Mul(signed(c[0]), signed(c[1]))
	case "UM/MOD":
		d, by = doubleOf(c[0], unsigned(c[1])), unsigned(c[2])
		least, greatest = big.NewInt(0), big.NewInt(1<<32-1)
	default:
		d = doubleOf(c[0], signed(c[1]))
	}
	if by.Sign() == 0 {
		return nil, api.ThrowDivide
	}
	quotient, rest := new(big.Int).QuoRem(d, by, new(big.Int)) // towards 0
	if name != "SM/REM" && rest.Sign() != 0 && rest.Sign() != by.Sign() {
		quotient.Sub(quotient, big.NewInt(1))
		rest.Add(rest, by)
	}
	if quotient.Cmp(least) < 0 || quotient.Cmp(greatest) > 0 {
		return nil, api.ThrowRange
	}
	l := append(lowest(rest, 1), lowest(quotient, 1)...)
	switch name {
	case "/", "*/":
		l = l[1:]
	case "MOD":
		l = l[:1]
	}
	return l, api.ThrowNone
}

// others returns what is given by the primitives that throw nothing of their own, and need nothing but cells.
func others(name string, c []uint32) []uint32 {
	switch len(c) {
	case 1:
		return others1(name, c[0])
	case 2:
		return others2(name, c[0], c[1])
	}
	x, y, z, w := c[0], c[1], c[2], c[len(c)-1]
	switch name {
	case "ROT":
		return []uint32{y, z, x}
	case "2SWAP":
		return []uint32{z, w, x, y}
	case "2OVER":
		return []uint32{x, y, z, w, x, y}
	case "D+":
		return lowest(new(big.Int).Add(doubleOf(x, unsigned(y)), doubleOf(z, unsigned(w))), 2)
	}
	inside := y < z && y <= x && x < z || y > z && (x >= y || x < z) // WITHIN: from y on, up to z, behind the greatest cell comes 0
	return flag(inside)
}

func flag(is bool) []uint32 {
	if is {
		return []uint32{1<<32 - 1}
	}
	return []uint32{0}
}

func others1(name string, x uint32) []uint32 {
	n := signed(x)
	switch name {
	case "DUP":
		return []uint32{x, x}
	case "?DUP":
		return slices.Repeat([]uint32{x}, min(int(x), 1)+1)
	case "DROP":
		return nil
	case "CHARS":
		return []uint32{x}
	case "NEGATE":
		return lowest(n.Neg(n), 1)
	case "ABS":
		return lowest(n.Abs(n), 1)
	case "1+", "CHAR+":
		return lowest(n.Add(n, big.NewInt(1)), 1)
	case "1-":
		return lowest(n.Sub(n, big.NewInt(1)), 1)
	case "2*":
		return lowest(n.Mul(n, big.NewInt(2)), 1)
	case "2/":
		return lowest(n.Div(n, big.NewInt(2)), 1) // rounds down, by a divisor above 0
	case "S>D":
		return lowest(n, 2)
	case "INVERT":
		return lowest(n.Sub(big.NewInt(-1), n), 1)
	case "0=":
		return flag(n.Sign() == 0)
	case "0<":
		return flag(n.Sign() < 0)
	case "0>":
		return flag(n.Sign() > 0)
	case "CELL+":
		return lowest(n.Add(n, big.NewInt(4)), 1)
	case "CELLS":
		return lowest(n.Mul(n, big.NewInt(4)), 1)
	}
	for n := unsigned(x); ; n.Add(n, big.NewInt(1)) { // ALIGNED
		if new(big.Int).Mod(n, big.NewInt(4)).Sign() == 0 {
			return lowest(n, 1)
		}
	}
}

func others2(name string, x, y uint32) []uint32 {
	n, m := signed(x), signed(y)
	switch name {
	case "SWAP":
		return []uint32{y, x}
	case "OVER":
		return []uint32{x, y, x}
	case "NIP":
		return []uint32{y}
	case "TUCK":
		return []uint32{y, x, y}
	case "2DUP":
		return []uint32{x, y, x, y}
	case "2DROP":
		return nil
	case "+":
		return lowest(n.Add(n, m), 1)
	case "-":
		return lowest(n.Sub(n, m), 1)
	case "*":
		return lowest(n.Mul(n, m), 1)
	case "M*":
		return lowest(n.Mul(n, m), 2)
	case "UM*":
		return lowest(n.Mul(unsigned(x), unsigned(y)), 2)
	case "DNEGATE":
		return lowest(n.Neg(doubleOf(x, unsigned(y))), 2)
	case "MIN":
		return lowest([]*big.Int{n, m}[(n.Cmp(m)+1)/2], 1)
	case "MAX":
		return lowest([]*big.Int{m, n}[(n.Cmp(m)+1)/2], 1)
	case "AND":
		return lowest(n.And(n, m), 1)
	case "OR":
		return lowest(n.Or(n, m), 1)
	case "XOR":
		return lowest(n.Xor(n, m), 1)
	case "LSHIFT":
		return lowest(n.Lsh(n, uint(min(y, 32))), 1)
	case "RSHIFT":
		return lowest(n.Rsh(unsigned(x), uint(min(y, 32))), 1)
	case "=":
		return flag(n.Cmp(m) == 0)
	case "<>":
		return flag(n.Cmp(m) != 0)
	case "<":
		return flag(n.Cmp(m) < 0)
	case ">":
		return flag(n.Cmp(m) > 0)
	case "U<":
		return flag(unsigned(x).Cmp(unsigned(y)) < 0)
	}
	return flag(unsigned(x).Cmp(unsigned(y)) > 0) // U>
}

// wantSame fails unless both are the same, and throw the same.
func wantSame(t *testing.T, p primitive, real state, before model) (model, api.Throw) {
	t.Helper()
	after, throw := before.do(p)
	what := fmt.Sprint(before.data, p.name)
	want(t, what, real.do(p.name), throw)
	real.wantStacks(t, what, after.data, after.back)
	real.wantMemory(t, what, after.ram)
	return after, throw
}

// P12.1: each primitive with all rows of as many cells as it takes, of some at the edges; with more than two fewer of them.
func TestEachPrimitiveAsTheModel(t *testing.T) {
	for _, p := range primitives() {
		some := someCells()
		for len(some) > 10 && p.takes == 4 || len(some) > 22 && p.takes == 3 {
			some = slices.Delete(some, 2, 3)
		}
		for i := range pow(len(some), p.takes) {
			var data []uint32
			for range p.takes {
				data = append(data, some[i%len(some)])
				i /= len(some)
			}
			m := model{data, []uint32{31}, room{9, 2}, rising(101, 16)}
			wantSame(t, p, made(t, m.in, data, m.back), m)
			if t.Failed() {
				t.FailNow()
			}
		}
	}
}

func pow(n, k int) int {
	p := 1
	for range k {
		p *= n
	}
	return p
}

// P12.1, P12.2: long rows of primitives, and of cells that are pushed, held against the model after each.
func TestLongRowsAsTheModel(t *testing.T) {
	next := numbers(12345)
	all, edges := primitives(), someCells()
	pick := func() uint32 {
		switch next() % 5 {
		case 0:
			return next() % 6
		case 1:
			return ram + next()%20 - 2
		case 2:
			return ram + next()%4*4
		case 3:
			return win + next()%16 - 2
		}
		return edges[next()%uint32(len(edges))]
	}
	thrown, done := map[api.Throw]int{}, map[string]int{}
	for _, in := range []room{{1, 1}, {3, 1}, {5, 2}, {8, 3}, {30, 9}} {
		m := model{in: in, ram: rising(101, 16)}
		real := made(t, in, nil, nil)
		for range 40000 {
			if next()%2 == 0 && len(m.data) < in.data {
				x := pick()
				m.data = append(slices.Clone(m.data), x)
				want(t, "Push", real.s.Push(x), api.ThrowNone)
				continue
			}
			p := all[next()%uint32(len(all))]
			var throw api.Throw
			m, throw = wantSame(t, p, real, m)
			thrown[throw]++
			if throw == api.ThrowNone {
				done[p.name]++
			}
			if t.Failed() {
				t.FailNow()
			}
		}
	}
	for _, throw := range []api.Throw{over, under, rOver, rUnder, memory, read, align, api.ThrowDivide, api.ThrowRange} {
		if thrown[throw] < 30 {
			t.Errorf("no more than %d times was %d thrown", thrown[throw], throw)
		}
	}
	for _, p := range all {
		if done[p.name] < 10 {
			t.Errorf("%s was executed no more than %d times", p.name, done[p.name])
		}
	}
}
