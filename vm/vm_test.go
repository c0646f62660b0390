package vm_test

import (
	"math"
	"slices"
	"strconv"
	"strings"
	"testing"

	"lightship/api"
	"lightship/image"
	"lightship/prim"
	"lightship/vm"
)

const (
	ram  = 256
	room = 16
	fuel = 10000
)

// ends is the first address behind RAM.
const ends = api.RamAt + ram

// code returns the cells that a text tells: numbers, names of primitives, wN for a call of the word N, and a text between two ".
func code(s string) []uint32 {
	var l []uint32
	for _, word := range strings.Fields(s) {
		if n, err := strconv.ParseInt(word, 0, 64); err == nil {
			l = append(l, uint32(n))
		} else if strings.HasPrefix(word, "w") && len(word) > 1 {
			n, _ := strconv.Atoi(word[1:])
			l = append(l, api.FirstCall+uint32(n))
		} else if strings.HasPrefix(word, "\"") {
			l = append(l, cells(strings.ReplaceAll(strings.Trim(word, "\""), "_", " "))...)
		} else {
			p, ok := prim.Named(word)
			if !ok {
				panic(word)
			}
			l = append(l, p.Number)
		}
	}
	return l
}

// cells returns how many bytes a text has, and its bytes, the lowest ones of each cell first.
func cells(text string) []uint32 {
	l := []uint32{uint32(len(text))}
	for i := range len(text) {
		if i%4 == 0 {
			l = append(l, 0)
		}
		l[len(l)-1] += uint32(text[i]) << (i % 4 * 8)
	}
	return l
}

// words returns words with this code; their names are w0, w1 and so on.
func words(texts ...string) []api.Word {
	var l []api.Word
	for i, s := range texts {
		l = append(l, api.Word{Name: "w" + strconv.Itoa(i), Code: code(s)})
	}
	return l
}

// with returns a machine that has words with this code.
func with(t *testing.T, texts ...string) *vm.Machine {
	t.Helper()
	return withWords(t, ram, room, words(texts...))
}

func withWords(t *testing.T, ram, room int, l []api.Word) *vm.Machine {
	t.Helper()
	v, e := vm.New(ram, room)
	if e != api.OK {
		t.Fatalf("New(%d, %d): %d", ram, room, e)
	}
	if e := v.SetWords(l); e != api.OK {
		t.Fatalf("SetWords: %d, the first wrong one is %d", e, prim.Check(l))
	}
	return v
}

func want[T comparable](t *testing.T, what string, got, wanted T) {
	t.Helper()
	if got != wanted {
		t.Errorf("%s: %v, want %v", what, got, wanted)
	}
}

func wantAll[T comparable](t *testing.T, what string, got, wanted []T) {
	t.Helper()
	if !slices.Equal(got, wanted) {
		t.Errorf("%s: %v, want %v", what, got, wanted)
	}
}

func wantWords(t *testing.T, what string, got, wanted []api.Word) {
	t.Helper()
	if !slices.EqualFunc(got, wanted, sameWord) {
		t.Errorf("%s: words %v, want %v", what, got, wanted)
	}
}

func sameWord(a, b api.Word) bool {
	return a.Name == b.Name && a.Flags == b.Flags && slices.Equal(a.Code, b.Code)
}

// wantRun fails unless the last word throws this, leaves these cells, and writes this. All of it is told by texts, as code is.
func wantRun(t *testing.T, v *vm.Machine, thrown api.Throw, data, out string) {
	t.Helper()
	what := "Run of " + v.Words()[len(v.Words())-1].Name
	got, _ := v.Run(len(v.Words())-1, fuel)
	want(t, what+": throw", got, thrown)
	wantAll(t, what+": data", v.Data(), code(data))
	want(t, what+": output", v.Out(), out)
}

// wantCode fails unless a machine whose last word has this code does so.
func wantCode(t *testing.T, text string, thrown api.Throw, data, out string) {
	t.Helper()
	v := with(t, text)
	wantRun(t, v, thrown, data, out)
	if t.Failed() {
		t.Fatal(text)
	}
}

// The chapter's examples.
func TestExamples(t *testing.T) {
	v := with(t, "(LIT) 2 (LIT) 3 + EXIT")
	throw, left := v.Run(0, 10)
	want(t, "throw", throw, api.ThrowNone)
	want(t, "left", left, 6)
	wantAll(t, "data", v.Data(), []uint32{5})
	throw, left = v.Run(0, 3)
	want(t, "throw", throw, api.ThrowFuel)
	want(t, "left", left, 0)
	wantCode(t, "(LIT) 5 (LIT) 0 (DO) I . (LOOP) 5 EXIT", api.ThrowNone, "", "0 1 2 3 4 ")
	wantRun(t, with(t, "(LIT) 7 THROW EXIT", "(LIT) w0 CATCH EXIT"), api.ThrowNone, "7", "")
	wantCode(t, "(LIT) 1 (LIT) 0 / EXIT", api.ThrowDivide, "1 0", "")
}

// P14.1: a machine without words.
func TestNew(t *testing.T) {
	for _, n := range []int{api.MinRam, api.MinRam + 4, 2048, api.MaxRam} {
		for _, room := range []int{1, 2, api.MaxStack} {
			v, e := vm.New(n, room)
			want(t, "New", e, api.OK)
			want(t, "words", len(v.Words()), 0)
			want(t, "data", len(v.Data()), 0)
			want(t, "here", v.Here(), api.DataAt)
			want(t, "output", v.Out(), "")
			want(t, "stopped", v.Stopped(), false)
			wanted := make([]byte, n)
			wanted[0] = 10
			wantAll(t, "RAM", v.Ram(), wanted)
			throw, left := v.Run(0, 5)
			want(t, "Run without words", throw, api.ThrowWord)
			want(t, "fuel", left, 5)
			_, throw = v.Load(api.WindowAt)
			want(t, "Load of a window without bytes", throw, api.ThrowMemory)
		}
	}
}

// P14.1: sizes of RAM and rooms that may not be; no machine then.
func TestNewOfWrongSizes(t *testing.T) {
	wrongRam := []int{math.MinInt, -128, -4, -1, 0, 1, 4, 64, 124, 125, 126, 127, 129, 130, 131, api.MaxRam - 1, api.MaxRam + 1, api.MaxRam + 4, 1 << 32, 1<<32 + 128, math.MaxInt, math.MaxInt - 3}
	wrongRoom := []int{math.MinInt, -1, 0, api.MaxStack + 1, 1 << 32, 1<<32 + 1, math.MaxInt}
	for _, n := range wrongRam {
		for _, room := range append([]int{1, 4096}, wrongRoom...) {
			v, e := vm.New(n, room)
			want(t, "New of wrong RAM", e, api.ErrArg)
			want(t, "machine", v, nil)
		}
	}
	for _, room := range wrongRoom {
		v, e := vm.New(128, room)
		want(t, "New of a wrong room", e, api.ErrArg)
		want(t, "machine", v, nil)
	}
}

// P14.1: both stacks have just this room.
func TestRoom(t *testing.T) {
	for _, room := range []int{1, 2, 5, api.MaxStack} {
		v := withWords(t, ram, room, words("EXIT", "w1 EXIT", "R> DROP (LIT) 7 >R (BRANCH) 2 EXIT"))
		for i := range room {
			want(t, "Push", v.Push(uint32(i)), api.ThrowNone)
		}
		want(t, "Push beyond the room", v.Push(1), api.ThrowOver)
		want(t, "cells", len(v.Data()), room)
		throw, left := v.Run(0, fuel)
		want(t, "a word without calls", throw, api.ThrowNone)
		want(t, "left", left, fuel-1)
		throw, left = v.Run(1, fuel)
		want(t, "a word that calls itself", throw, api.ThrowROver)
		want(t, "calls", fuel-left, room)
		v.Clear()
		throw, left = v.Run(2, 3*fuel)
		want(t, "cells that are moved to the return stack", throw, api.ThrowROver)
		want(t, "steps", 3*fuel-left, 2+3*room+2)
	}
}

// P14.1: the window is the bytes of the words, and can only be read.
func TestWindow(t *testing.T) {
	l := words("EXIT", "(LIT) 0x04030201 w0 EXIT", "(.\") \"hello\" EXIT")
	l[1].Flags, l[2].Name = api.FlagAll, "a-name"
	v := withWords(t, ram, room, l)
	wantWindow(t, v, l)
	l = append(l, words("w2 EXIT")...)
	want(t, "SetWords", v.SetWords(l), api.OK)
	wantWindow(t, v, l)
	want(t, "SetWords", v.SetWords(l[:1]), api.OK)
	wantWindow(t, v, l[:1])
	want(t, "SetWords", v.SetWords(nil), api.OK)
	wantWindow(t, v, nil)
}

func wantWindow(t *testing.T, v *vm.Machine, l []api.Word) {
	t.Helper()
	b, _ := image.Encode(l)
	for at := 0; at < len(b); at += 4 {
		x, throw := v.Load(uint32(api.WindowAt + at))
		if at+4 > len(b) {
			want(t, "Load at the window's end", throw, api.ThrowMemory)
			break
		}
		want(t, "Load", x, uint32(b[at])|uint32(b[at+1])<<8|uint32(b[at+2])<<16|uint32(b[at+3])<<24)
		want(t, "Store", v.Store(uint32(api.WindowAt+at), 0), api.ThrowRead)
	}
	_, throw := v.Load(uint32(api.WindowAt + (len(b)+3)/4*4))
	want(t, "Load behind the window", throw, api.ThrowMemory)
}

// P14.1 (R3): neither what was given is kept, nor what is returned.
func TestWordsHaveMemoryOfTheirOwn(t *testing.T) {
	given, wanted := words("(LIT) 1 EXIT", "w0 EXIT"), words("(LIT) 1 EXIT", "w0 EXIT")
	v := withWords(t, ram, room, given)
	given[0].Code[1], given[1].Code[0], given[1].Name = 9, 101, "x"
	wantWords(t, "what was given is changed", v.Words(), wanted)
	got, other := v.Words(), v.Words()
	got[0].Code[1], got[1].Code[0], got[1].Name = 9, 101, "x"
	_ = append(got[0].Code[:1], 9)
	wantWords(t, "what was returned is changed", v.Words(), wanted)
	wantWords(t, "the other one that was returned", other, wanted)
	wantRun(t, v, api.ThrowNone, "1", "")
	wantWindow(t, v, wanted)
	long := make([]uint32, 3, 9)
	copy(long, code("(LIT) 5 EXIT"))
	l := append(make([]api.Word, 0, 5), api.Word{Name: "x", Code: long})
	want(t, "SetWords", v.SetWords(l), api.OK)
	v.Run(0, 5)
	wantAll(t, "spare capacity", long[:9], []uint32{102, 5, 101, 0, 0, 0, 0, 0, 0})
	want(t, "spare capacity", l[:2][1].Name, "")
}

// P14.1: words that are not right, too many, or too long; nothing changes.
func TestSetWordsOfWrongOnes(t *testing.T) {
	before := words("(LIT) 5 EXIT", "w0 EXIT")
	v := withWords(t, ram, room, before)
	wrong := [][]api.Word{
		words("1"), words(""), words("EXIT", "w2 EXIT"), words("(BRANCH) 1 EXIT"), words("(GO) 0 0 EXIT"), words("EXIT", "(LIT) EXIT"), words("0 EXIT"), words("74 EXIT"),
		{{Name: "", Code: code("EXIT")}}, {{Name: "a b", Code: code("EXIT")}}, {{Name: "x", Flags: 4, Code: code("EXIT")}}, {{Name: "x", Code: slices.Repeat(code("EXIT"), 1001)}},
		slices.Repeat(words("EXIT"), 2049), slices.Repeat(words("EXIT"), 4096), append(large(65536), words("EXIT")...), large(65537), large(65540), large(131072),
	}
	for _, n := range []int{9, 10, 11, 12, 65536, 65537, 65540} {
		b, e := image.Encode(large(n))
		want(t, "Encode", e, api.OK)
		want(t, "bytes", len(b), n)
	}
	for i, l := range wrong {
		want(t, "SetWords of the wrong list "+strconv.Itoa(i), v.SetWords(l), api.ErrWord)
		wantWords(t, "words", v.Words(), before)
		wantWindow(t, v, before)
	}
	wantRun(t, v, api.ThrowNone, "5", "")
}

// large returns words whose bytes are this many, of at least 9.
func large(n int) []api.Word {
	var l []api.Word
	for ; n > 4004; n -= 2005 {
		l = append(l, api.Word{Name: "w", Code: slices.Repeat(code("EXIT"), 500)})
	}
	name := "wxyz"[:(n-5)%4+1]
	return append(l, api.Word{Name: name, Code: slices.Repeat(code("EXIT"), (n-4-len(name))/4)})
}

// P14.1: as many words, and as many bytes, as may be.
func TestSetWordsAtTheLimits(t *testing.T) {
	l := slices.Repeat(words("EXIT"), 2048)
	l[2047] = api.Word{Name: "last", Code: code("(LIT) 7 w2046 w0 EXIT")}
	v := withWords(t, ram, room, l)
	wantRun(t, v, api.ThrowNone, "7", "")
	l = large(65536)
	b, e := image.Encode(l)
	want(t, "Encode", e, api.OK)
	want(t, "bytes", len(b), 65536)
	want(t, "SetWords", v.SetWords(l), api.OK)
	wantWindow(t, v, l)
	want(t, "without words", v.SetWords([]api.Word{}), api.OK)
	want(t, "words", len(v.Words()), 0)
}

// P14.3: Push and Pop are those of the data stack, Clear makes it empty.
func TestDataStack(t *testing.T) {
	v := with(t, "DUP * EXIT")
	x, throw := v.Pop()
	want(t, "Pop of none", throw, api.ThrowUnder)
	want(t, "Pop of none", x, 0)
	v.Push(1)
	v.Push(math.MaxUint32)
	v.Push(7)
	data := v.Data()
	wantAll(t, "Data", data, []uint32{1, math.MaxUint32, 7})
	wantRun(t, v, api.ThrowNone, "1 -1 49", "")
	wantAll(t, "Data of before", data, []uint32{1, math.MaxUint32, 7})
	data = v.Data()
	data[0] = 9
	x, throw = v.Pop()
	want(t, "Pop", throw, api.ThrowNone)
	want(t, "Pop", x, 49)
	wantAll(t, "Data", v.Data(), []uint32{1, math.MaxUint32})
	v.Clear()
	want(t, "cells after Clear", len(v.Data()), 0)
	_, throw = v.Pop()
	want(t, "Pop after Clear", throw, api.ThrowUnder)
	want(t, "Push after Clear", v.Push(3), api.ThrowNone)
	wantAll(t, "Data", v.Data(), []uint32{3})
}

// P14.3: Load, Store and Ram are those of memory, and words see the same.
func TestMemory(t *testing.T) {
	v := with(t, "(LIT) 0x100060 @ (LIT) 1 (LIT) 0x100060 +! EXIT")
	want(t, "Store", v.Store(api.RamAt+0x60, 0x04030201), api.ThrowNone)
	wantRun(t, v, api.ThrowNone, "0x04030201", "")
	x, throw := v.Load(api.RamAt + 0x60)
	want(t, "Load", x, 0x04030202)
	want(t, "Load", throw, api.ThrowNone)
	b := v.Ram()
	wantAll(t, "Ram", b[0x5c:0x68], []byte{0, 0, 0, 0, 2, 2, 3, 4, 0, 0, 0, 0})
	b[0x60] = 99
	x, _ = v.Load(api.RamAt + 0x60)
	want(t, "Load after another change of what Ram returned", x, 0x04030202)
	for _, at := range []uint32{api.RamAt + 1, api.RamAt + 2, api.WindowAt + 3, 1} {
		_, throw = v.Load(at)
		want(t, "Load", throw, api.ThrowAlign)
		want(t, "Store", v.Store(at, 1), api.ThrowAlign)
	}
	for _, at := range []uint32{0, api.WindowAt - 4, ends, ends + 4, api.RamAt - 4, 1<<32 - 4} {
		x, throw = v.Load(at)
		want(t, "Load", throw, api.ThrowMemory)
		want(t, "Load", x, 0)
		want(t, "Store", v.Store(at, 1), api.ThrowMemory)
	}
	_, throw = v.Load(ends - 4)
	want(t, "Load of the last cell", throw, api.ThrowNone)
}

// P14.3: where data continue is from where they begin on, up to RAM's end.
func TestSetHere(t *testing.T) {
	v := with(t, "HERE EXIT")
	want(t, "Here", v.Here(), api.DataAt)
	for _, at := range []uint32{api.DataAt, api.DataAt + 1, api.DataAt + 2, ends - 1, ends, api.DataAt + 4} {
		want(t, "SetHere", v.SetHere(at), api.ThrowNone)
		want(t, "Here", v.Here(), at)
		v.Run(0, fuel)
		x, _ := v.Pop()
		want(t, "HERE", x, at)
	}
	for _, at := range []uint32{0, api.WindowAt, api.WindowAt + 1, api.RamAt, api.DataAt - 1, api.DataAt - 4, ends + 1, ends + 4, 1 << 31, math.MaxUint32} {
		want(t, "SetHere", v.SetHere(at), api.ThrowDict)
		want(t, "Here", v.Here(), api.DataAt+4)
	}
}

// P14.3: each call of Out returns what was written since the last one.
func TestOut(t *testing.T) {
	v := with(t, "(LIT) 65 EMIT EXIT", "w0 w0 (LIT) 0 / EXIT")
	v.Run(0, fuel)
	v.Run(0, fuel)
	want(t, "Out of two runs", v.Out(), "AA")
	want(t, "Out again", v.Out(), "")
	v.Run(1, fuel)
	v.Clear()
	want(t, "Out after a throw", v.Out(), "AA")
	v.Run(0, 2)
	want(t, "Out without fuel", v.Out(), "A")
	v.Run(0, 1)
	want(t, "Out with less fuel", v.Out(), "")
}

// P14.3, R5: machines that no New returned.
func TestNoMachine(t *testing.T) {
	made := with(t, "CREATE EXIT")
	made.Run(0, fuel)
	byValue := *made
	for _, v := range []*vm.Machine{nil, {}, new(vm.Machine), &byValue} {
		want(t, "SetWords", v.SetWords(words("EXIT")), api.ErrNil)
		want(t, "SetWords of wrong ones", v.SetWords(words("1")), api.ErrNil)
		want(t, "Words", len(v.Words()), 0)
		for _, n := range []int{-1, 0, 1} {
			throw, left := v.Run(n, 7)
			want(t, "Run", throw, api.ThrowWord)
			want(t, "fuel", left, 7)
		}
		throw, left := v.Resume(7)
		want(t, "Resume", throw, api.ThrowWord)
		want(t, "fuel", left, 7)
		want(t, "Stopped", v.Stopped(), false)
		v.Fix(3)
		v.Clear()
		want(t, "Data", len(v.Data()), 0)
		want(t, "Push", v.Push(1), api.ThrowUnder)
		x, throw := v.Pop()
		want(t, "Pop", throw, api.ThrowUnder)
		want(t, "Pop", x, 0)
		want(t, "Here", v.Here(), 0)
		want(t, "SetHere", v.SetHere(api.DataAt), api.ThrowDict)
		for _, at := range []uint32{api.RamAt, api.RamAt + 1, api.WindowAt, 0} {
			x, throw = v.Load(at)
			want(t, "Load", throw, api.ThrowMemory)
			want(t, "Load", x, 0)
			want(t, "Store", v.Store(at, 1), api.ThrowMemory)
		}
		want(t, "Ram", len(v.Ram()), 0)
		want(t, "Out", v.Out(), "")
	}
	want(t, "the one that was made is stopped still", made.Stopped(), true)
}

// R4: machines have nothing in common.
func TestMachinesAreApart(t *testing.T) {
	a, b := with(t, "(LIT) 7 DUP . , (LIT) 16 BASE ! EXIT"), with(t, "(LIT) 1 EXIT")
	wantRun(t, a, api.ThrowNone, "", "7 ")
	wantRun(t, b, api.ThrowNone, "1", "")
	want(t, "here", b.Here(), api.DataAt)
	base, _ := b.Load(api.BaseAt)
	want(t, "base", base, 10)
	datum, _ := b.Load(api.DataAt)
	want(t, "datum", datum, 0)
}
