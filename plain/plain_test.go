package plain_test

import (
	"math"
	"slices"
	"strconv"
	"strings"
	"testing"

	"lightship/api"
	"lightship/mem"
	"lightship/plain"
	"lightship/stack"
)

const (
	win = api.WindowAt
	ram = api.RamAt
)

// What the stacks throw here: codes that nothing else throws.
const (
	over   api.Throw = -103
	under  api.Throw = -104
	rOver  api.Throw = -105
	rUnder api.Throw = -106
)

// table is the primitives from 1 on, each with the cells that it takes and gives (layer 11).
const table = `DUP 1 2 DROP 1 0 SWAP 2 2 OVER 2 3 ROT 3 3 ?DUP 1 1 NIP 2 1 TUCK 2 3 2DUP 2 4 2DROP 2 0 2SWAP 4 4 2OVER 4 6
	DEPTH 0 1 PICK 1 1 ROLL 1 0 + 2 1 - 2 1 * 2 1 / 2 1 MOD 2 1 /MOD 2 2 */ 3 1 */MOD 3 2 NEGATE 1 1
	ABS 1 1 MIN 2 1 MAX 2 1 1+ 1 1 1- 1 1 2* 1 1 2/ 1 1 UM* 2 2 M* 2 2 UM/MOD 3 2 FM/MOD 3 2 SM/REM 3 2
	S>D 1 2 D+ 4 2 DNEGATE 2 2 AND 2 1 OR 2 1 XOR 2 1 INVERT 1 1 LSHIFT 2 1 RSHIFT 2 1 = 2 1 <> 2 1 < 2 1
	> 2 1 U< 2 1 U> 2 1 0= 1 1 0< 1 1 0> 1 1 WITHIN 3 1 @ 1 1 ! 2 0 C@ 1 1 C! 2 0 +! 2 0
	2@ 1 2 2! 3 0 MOVE 3 0 FILL 3 0 CELL+ 1 1 CELLS 1 1 CHAR+ 1 1 CHARS 1 1 ALIGNED 1 1 COUNT 1 2 >R 1 0 R> 0 1 R@ 0 1`

// primitive is a row of the table.
type primitive struct {
	number       uint32
	name         string
	takes, gives int
}

func primitives() []primitive {
	var l []primitive
	for row := range slices.Chunk(strings.Fields(table), 3) {
		takes, _ := strconv.Atoi(row[1])
		gives, _ := strconv.Atoi(row[2])
		l = append(l, primitive{uint32(len(l) + 1), row[0], takes, gives})
	}
	return l
}

var numbersByName = func() map[string]uint32 {
	l := map[string]uint32{}
	for _, p := range primitives() {
		l[p.name] = p.number
	}
	return l
}()

func numberOf(name string) uint32 {
	return numbersByName[name]
}

// cells returns those of a text: numbers of both signs, decimal or with 0x, and flags.
func cells(t *testing.T, text string) []uint32 {
	t.Helper()
	var l []uint32
	for _, word := range strings.Fields(text) {
		switch word {
		case "true":
			word = "-1"
		case "false":
			word = "0"
		}
		n, e := strconv.ParseInt(word, 0, 64)
		if e != nil || n < math.MinInt32 || n > math.MaxUint32 {
			t.Fatalf("%q is no cell", word)
		}
		l = append(l, uint32(n))
	}
	return l
}

// state is both stacks and the memory.
type state struct {
	s, r *stack.Stack
	m    *mem.Memory
}

// room is how many cells each stack has room for.
type room struct{ data, back int }

// rising returns n bytes: first, and one more each.
func rising(first byte, n int) []byte {
	l := make([]byte, n)
	for i := range l {
		l[i] = first + byte(i)
	}
	return l
}

// made returns stacks with these cells, and a memory with the bytes 101, 102 and so on in 16 bytes of RAM, and 1 to 12 in the window.
func made(t *testing.T, in room, data, back []uint32) state {
	t.Helper()
	s, e := stack.New(in.data, over, under)
	want(t, "New", e, api.OK)
	r, e := stack.New(in.back, rOver, rUnder)
	want(t, "New", e, api.OK)
	m, e := mem.New(16, rising(1, 12))
	want(t, "New", e, api.OK)
	want(t, "Push", s.Push(data...), api.ThrowNone)
	want(t, "Push", r.Push(back...), api.ThrowNone)
	for i, b := range rising(101, 16) {
		want(t, "SetByte", m.SetByte(ram+uint32(i), b), api.ThrowNone)
	}
	return state{s, r, m}
}

// do executes a primitive by its name.
func (k state) do(name string) api.Throw {
	return plain.Do(numberOf(name), k.s, k.r, k.m)
}

func want[T comparable](t *testing.T, what string, got, wanted T) {
	t.Helper()
	if got != wanted {
		t.Errorf("%s: %v, want %v", what, got, wanted)
	}
}

func wantAll[T comparable](t *testing.T, what string, got, wanted []T) {
	t.Helper()
	if !slices.Equal(got, wanted) {
		t.Errorf("%s: %v, want %v", what, got, wanted)
	}
}

// wantState fails unless the stacks have these cells, and the memory is as it was made.
func (k state) wantState(t *testing.T, what string, data, back []uint32) {
	t.Helper()
	k.wantStacks(t, what, data, back)
	k.wantMemory(t, what, rising(101, 16))
}

func (k state) wantStacks(t *testing.T, what string, data, back []uint32) {
	t.Helper()
	wantAll(t, what+": data", k.s.All(), data)
	wantAll(t, what+": return", k.r.All(), back)
}

// wantMemory fails unless RAM has these bytes, and the window those that it always has.
func (k state) wantMemory(t *testing.T, what string, inRam []byte) {
	t.Helper()
	wantAll(t, what+": RAM", k.m.Ram(), inRam)
	shown, throw := k.m.Bytes(win, 12)
	wantAll(t, what+": window", shown, rising(1, 12))
	want(t, what+": window", throw, api.ThrowNone)
	_, throw = k.m.Bytes(win, 13)
	want(t, what+": behind the window", throw, api.ThrowMemory)
}

// wantEffect fails unless a primitive makes these cells of those, with nothing else changed: with few cells, with many, and with no more room than they need.
func wantEffect(t *testing.T, name, before, after string) {
	t.Helper()
	in, out := cells(t, before), cells(t, after)
	for _, below := range [][]uint32{nil, {7}, {3, 2, 1, 0, 99}} {
		data, given := slices.Concat(below, in), slices.Concat(below, out)
		if name == "DEPTH" {
			given[len(given)-1] += uint32(len(below))
		}
		for _, spare := range []int{0, 1, 100} {
			k := made(t, room{max(len(data), len(given), 1) + spare, 4}, data, []uint32{31, 32})
			what := before + " " + name
			want(t, what, k.do(name), api.ThrowNone)
			k.wantState(t, what, given, []uint32{31, 32})
		}
	}
}

// wantThrow fails unless a primitive throws, and nothing changes.
func wantThrow(t *testing.T, name, before string, throw api.Throw) {
	t.Helper()
	in := cells(t, before)
	for _, spare := range []int{1, 2, 100} {
		k := made(t, room{len(in) + spare, 2}, in, []uint32{31, 32})
		what := before + " " + name
		want(t, what, k.do(name), throw)
		k.wantState(t, what, in, []uint32{31, 32})
	}
}

// P12.1: the chapter's examples.
func TestExamples(t *testing.T) {
	wantEffect(t, "ROT", "1 2 3", "2 3 1")
	wantEffect(t, "/MOD", "7 -2", "-1 -4")
	wantThrow(t, "/", "5 0", api.ThrowDivide)
	wantThrow(t, "PICK", "1 2 2", under)
	wantEffect(t, "WITHIN", "3 1 5", "true")
	wantEffect(t, "WITHIN", "5 1 5", "0")
	k := made(t, room{4, 4}, []uint32{258, ram}, nil)
	want(t, "!", k.do("!"), api.ThrowNone)
	k.s.Push(ram)
	want(t, "C@", k.do("C@"), api.ThrowNone)
	k.s.Push(ram)
	want(t, "COUNT", k.do("COUNT"), api.ThrowNone)
	k.wantStacks(t, "! C@ COUNT", []uint32{2, ram + 1, 2}, nil)
	k = made(t, room{4, 4}, []uint32{7}, nil)
	for _, name := range []string{">R", "R@", "R>"} {
		want(t, name, k.do(name), api.ThrowNone)
	}
	k.wantState(t, ">R R@ R>", []uint32{7, 7}, nil)
}

// numbersOfNone are such as no plain primitive has.
func numbersOfNone() []uint32 {
	l := []uint32{0, 256, 257, 256 + 1, 256 + 73, 300, 512 + 16, 1 << 16, 1<<16 + 1, 1 << 31, 1<<31 + 1, 1<<32 - 73, 1<<32 - 1}
	for n := uint32(74); n < 256; n++ {
		l = append(l, n)
	}
	return l
}

// P12.1: numbers that are no plain primitive's are thrown for as such, whatever the stacks are, and nothing changes.
func TestNoPlainPrimitive(t *testing.T) {
	for _, n := range numbersOfNone() {
		for _, data := range [][]uint32{nil, {1}, {ram, ram, 0}, {1, 2, 3, 4, 5, 6, 7, 8}} {
			for _, back := range [][]uint32{nil, {9}, {9, 8}} {
				k := made(t, room{8, 2}, data, back)
				want(t, "Do", plain.Do(n, k.s, k.r, k.m), api.ThrowWord)
				k.wantState(t, "Do", data, back)
			}
		}
		want(t, "Do with nothing", plain.Do(n, nil, nil, nil), api.ThrowWord)
		want(t, "Do with zeros", plain.Do(n, &stack.Stack{}, &stack.Stack{}, &mem.Memory{}), api.ThrowWord)
	}
}

// noStacks are such as New did not return.
func noStacks(s *stack.Stack) []*stack.Stack {
	copied := *s
	return []*stack.Stack{nil, {}, &copied}
}

// sample returns as many cells as a primitive takes, with which it throws nothing if the return stack has a cell, and room for one.
func sample(p primitive) []uint32 {
	switch p.name {
	case "?DUP":
		return []uint32{0}
	case "PICK", "ROLL":
		return []uint32{5, 0}
	case "@", "C@", "2@", "COUNT":
		return []uint32{ram}
	case "!", "C!", "+!":
		return []uint32{5, ram}
	case "2!":
		return []uint32{5, 6, ram}
	case "MOVE":
		return []uint32{ram, ram + 4, 4}
	case "FILL":
		return []uint32{ram, 4, 5}
	}
	if p.takes == 2 {
		return []uint32{7, 2}
	}
	return []uint32{3, 0, 5, 0}[:p.takes] // a double cell first
}

// P12.1 (R5): without a data stack each primitive throws as a stack does that is none; the others stay as they are.
func TestNoDataStack(t *testing.T) {
	for _, p := range primitives() {
		k := made(t, room{8, 4}, nil, []uint32{9, 8})
		for _, none := range noStacks(k.s) {
			want(t, p.name, plain.Do(p.number, none, k.r, k.m), api.ThrowUnder)
			want(t, p.name+" with nothing", plain.Do(p.number, none, nil, nil), api.ThrowUnder)
			want(t, p.name, none.Len(), 0)
		}
		k.wantState(t, p.name, nil, []uint32{9, 8})
	}
}

// P12.1 (R5): without a return stack those throw that need it, and nothing changes; all others do what they do.
func TestNoReturnStack(t *testing.T) {
	for _, p := range primitives() {
		k := made(t, room{8, 4}, sample(p), nil)
		for _, none := range noStacks(k.r) {
			k.s.Cut(0)
			k.s.Push(sample(p)...)
			wanted := api.ThrowNone
			if slices.Contains([]string{">R", "R>", "R@"}, p.name) {
				wanted = api.ThrowUnder
			}
			want(t, p.name, plain.Do(p.number, k.s, none, k.m), wanted)
			if wanted != api.ThrowNone {
				k.wantState(t, p.name, sample(p), nil)
			}
		}
	}
}

// P12.1 (R5): without a memory those throw that need it, and nothing changes; all others do what they do.
func TestNoMemory(t *testing.T) {
	needs := strings.Fields("@ ! C@ C! +! 2@ 2! MOVE FILL COUNT")
	for _, p := range primitives() {
		k := made(t, room{8, 4}, nil, []uint32{9})
		copied := *k.m
		for _, none := range []*mem.Memory{nil, {}, &copied} {
			k.s.Cut(0)
			k.s.Push(sample(p)...)
			wanted := api.ThrowNone
			if slices.Contains(needs, p.name) {
				wanted = api.ThrowMemory
			}
			k.r.Cut(0)
			k.r.Push(9)
			want(t, p.name, plain.Do(p.number, k.s, k.r, none), wanted)
			if wanted != api.ThrowNone {
				k.wantState(t, p.name, sample(p), []uint32{9})
			}
		}
	}
	k := made(t, room{8, 4}, []uint32{ram + 1}, nil)
	want(t, "@ where nothing is aligned", plain.Do(numberOf("@"), k.s, k.r, nil), api.ThrowMemory)
	k.wantState(t, "@", []uint32{ram + 1}, nil)
}

// P12.1 (R1): one stack may be both.
func TestOneStackForBoth(t *testing.T) {
	for _, p := range primitives() {
		for _, spare := range []int{0, 1, 9} {
			k := made(t, room{max(len(sample(p)), 1) + spare, 4}, sample(p), nil)
			before := k.s.All()
			if plain.Do(p.number, k.s, k.s, k.m) != api.ThrowNone {
				k.wantState(t, p.name, before, nil)
			}
		}
	}
}
