package vm_test

import (
	"strconv"
	"strings"
	"testing"

	"lightship/api"
	"lightship/vm"
)

// P14.2: the bytes of texts, of all lengths around those of cells, in the first word and in others.
func TestTexts(t *testing.T) {
	for _, n := range []int{0, 1, 2, 3, 4, 5, 7, 8, 9, 63, 1000} {
		text := make([]byte, n)
		for i := range text {
			text[i] = byte(255 - i)
		}
		c := cells(string(text))
		for ahead := range 3 {
			l := words("DUP EXIT", "(LIT) 5 (.\") \"abc\" EXIT")[:ahead]
			l = append(l, api.Word{Name: "long-name", Code: append(append(code("(LIT) 7 (.\")"), c...), code("EXIT")...)})
			l = append(l, api.Word{Name: "t", Code: append(append(code("(BRANCH) 3 DUP (S\")"), c...), code("EXIT")...)})
			v := withWords(t, ram, room, l)
			wantOut(t, v, ahead, string(text))
			wantAll(t, "data", v.Data(), []uint32{7})
			v.Clear()
			wantOut(t, v, ahead+1, "")
			data := v.Data()
			want(t, "cells", len(data), 2)
			want(t, "bytes", int(data[1]), n)
			address := uint32(api.WindowAt) // all words, without the last EXIT and the text
			for _, w := range l {
				address += uint32(4 + len(w.Name) + 4*len(w.Code))
			}
			want(t, "address", data[0], address-4-uint32((n+3)/4*4))
		}
	}
}

func wantOut(t *testing.T, v *vm.Machine, word int, out string) {
	t.Helper()
	throw, _ := v.Run(word, fuel)
	want(t, "throw", throw, api.ThrowNone)
	want(t, "output", v.Out(), out)
}

// P14.2: what is behind the bytes of a text in its last cell is not told.
func TestTextEndsWithinItsLastCell(t *testing.T) {
	wantCode(t, "(.\") 1 0x64636261 (.\") 6 0x64636261 0x68676665 EXIT", api.ThrowNone, "", "aabcdef")
	wantCode(t, "(S\") 2 0x64636261 TYPE EXIT", api.ThrowNone, "", "ab")
	wantCode(t, "(.\") 4 0x64000041 (.\") 1 0 EXIT", api.ThrowNone, "", "A\x00\x00d\x00")
}

// P14.2: addresses of texts stay right when other words come behind, and when a word is changed.
func TestTextsWithOtherWords(t *testing.T) {
	l := words("(S\") \"hello\" EXIT", "(S\") \"good_bye\" EXIT", "(DOES) 3 EXIT (.\") \"does\" EXIT")
	v := withWords(t, ram, room, append(l, words("(LIT) 5 EXIT")...))
	says := func(what string) {
		t.Helper()
		for i, text := range []string{"hello", "good bye"} {
			v.Clear()
			v.Run(i, fuel)
			at, n := v.Data()[0], v.Data()[1]
			want(t, what, read(t, v, at, n), text)
		}
	}
	says("at first")
	v.Run(2, fuel)
	says("behind (DOES)")
	wantOut(t, v, 3, "does")
	v.SetWords(append(v.Words(), words("DUP EXIT")...))
	says("with a word more")
	v.SetWords(v.Words()[:2])
	says("with fewer words")
	v.SetWords([]api.Word{l[0], l[1]})
	says("with the same")
}

// read returns bytes of memory, cell by cell.
func read(t *testing.T, v *vm.Machine, at, n uint32) string {
	t.Helper()
	var b []byte
	for i := at; i < at+n; i++ {
		x, throw := v.Load(i / 4 * 4)
		want(t, "Load", throw, api.ThrowNone)
		b = append(b, byte(x>>(i%4*8)))
	}
	return string(b)
}

// P14.2: bytes, lines, blanks.
func TestBytesAreWritten(t *testing.T) {
	wantCode(t, "(LIT) 65 EMIT (LIT) 0x1ff EMIT (LIT) 256 EMIT (LIT) -191 EMIT EXIT", api.ThrowNone, "", "A\xff\x00A")
	wantCode(t, "CR SPACE CR EXIT", api.ThrowNone, "", "\n \n")
	for n, out := range map[string]string{"0": "", "1": " ", "5": "     ", "-1": "", "-5": "", "0x80000000": "", "4096": strings.Repeat(" ", 4096)} {
		wantCode(t, "(LIT) "+n+" SPACES EXIT", api.ThrowNone, "", out)
	}
	for _, n := range []string{"4097", "5000", "65536", "0x7fffffff"} {
		wantCode(t, "(LIT) "+n+" SPACES EXIT", api.ThrowOut, n, "")
	}
}

// P14.2: TYPE of RAM and of the window; bytes that are not there.
func TestType(t *testing.T) {
	v := with(t, "TYPE EXIT")
	v.Store(api.RamAt+100, 0x64636261)
	v.Store(ends-4, 0x68676665)
	for _, c := range []struct {
		at, n uint32
		out   string
		want  api.Throw
	}{
		{api.RamAt + 100, 4, "abcd", 0}, {api.RamAt + 101, 2, "bc", 0}, {api.RamAt + 99, 3, "\x00ab", 0}, {api.RamAt + 100, 0, "", 0}, {ends - 4, 4, "efgh", 0}, {ends - 1, 1, "h", 0}, {ends, 0, "", 0},
		{api.WindowAt, 6, "\x02\x00\x02\x00w0", 0}, {api.WindowAt + 4, 2, "w0", 0}, {api.WindowAt + 14, 0, "", 0},
		{ends - 4, 5, "", api.ThrowMemory}, {ends, 1, "", api.ThrowMemory}, {ends + 1, 0, "", api.ThrowMemory}, {api.RamAt - 1, 2, "", api.ThrowMemory}, {api.WindowAt, 15, "", api.ThrowMemory}, {api.WindowAt - 1, 1, "", api.ThrowMemory}, {0, 0, "", api.ThrowMemory},
		{api.RamAt, 1<<32 - 1, "", api.ThrowMemory}, {1<<32 - 1, 1<<32 - 1, "", api.ThrowMemory}, {api.RamAt, 1 << 31, "", api.ThrowMemory},
	} {
		v.Clear()
		v.Push(c.at)
		v.Push(c.n)
		throw, _ := v.Run(0, fuel)
		what := "TYPE of " + strconv.Itoa(int(c.at)) + " " + strconv.Itoa(int(c.n))
		want(t, what, throw, c.want)
		want(t, what, v.Out(), c.out)
		want(t, what+": cells", len(v.Data()), map[bool]int{true: 2, false: 0}[throw != 0])
	}
}

// P14.2: each that writes, with room for all of it, and with room for one byte less: then nothing is written.
func TestNoRoomForOutput(t *testing.T) {
	for _, c := range []struct{ text, data, out string }{
		{"(LIT) 65 EMIT", "65", "A"}, {"CR", "", "\n"}, {"SPACE", "", " "}, {"(LIT) 3 SPACES", "3", "   "}, {"(LIT) 4100 (LIT) 2 TYPE", "4100 2", "w0"},
		{"(.\") \"hello\"", "", "hello"}, {"(LIT) -12 .", "-12", "-12 "}, {"(LIT) -12 U.", "-12", "4294967284 "}, {"(LIT) 0 .", "0", "0 "},
	} {
		for _, spare := range []int{0, 1} {
			n := api.MaxOut - len(c.out) + 1 - spare
			v := with(t, c.text+" EXIT", "SPACES EXIT", "w0 EXIT")
			v.Push(uint32(n))
			v.Run(1, fuel)
			blanks := strings.Repeat(" ", n)
			if spare == 0 {
				wantRun(t, v, api.ThrowOut, c.data, blanks)
			} else {
				wantRun(t, v, api.ThrowNone, "", blanks+c.out)
			}
			v.Clear()
			wantRun(t, v, api.ThrowNone, "", c.out) // Out made room
		}
	}
	v := with(t, "(LIT) 4096 SPACES (.\") \"\" (LIT) 0 SPACES (LIT) -1 SPACES (LIT) 4096 (LIT) 0 TYPE EXIT")
	wantRun(t, v, api.ThrowNone, "", strings.Repeat(" ", 4096))
	// What is not there is thrown ahead of the room that is missing.
	wantCode(t, "(LIT) 4096 SPACES (LIT) 0 (LIT) 1 TYPE EXIT", api.ThrowMemory, "0 1", strings.Repeat(" ", 4096))
	wantCode(t, "(LIT) 4096 SPACES (LIT) 99 BASE ! (LIT) 5 . EXIT", api.ThrowNumber, "5", strings.Repeat(" ", 4096))
	// The output is not a run's: it goes on in the next one.
	v = with(t, "(LIT) 65 EMIT EXIT", "(LIT) 4095 SPACES EXIT")
	v.Run(1, fuel)
	throw, _ := v.Run(0, fuel)
	want(t, "the last byte", throw, api.ThrowNone)
	throw, _ = v.Run(0, fuel)
	want(t, "one byte more", throw, api.ThrowOut)
}

// P14.2: numbers in each base, signed or not, with a blank behind them.
func TestNumbersAreWritten(t *testing.T) {
	for _, x := range []uint32{0, 1, 7, 10, 35, 36, 255, 1<<31 - 1, 1 << 31, 1<<31 + 1, 1<<32 - 10, 1<<32 - 1} {
		for base := 2; base <= 36; base++ {
			v := with(t, ". EXIT", "U. EXIT")
			v.Store(api.BaseAt, uint32(base))
			v.Push(x)
			wantOut(t, v, 0, strings.ToUpper(strconv.FormatInt(int64(int32(x)), base))+" ")
			v.Push(x)
			wantOut(t, v, 1, strings.ToUpper(strconv.FormatUint(uint64(x), base))+" ")
			want(t, "cells", len(v.Data()), 0)
		}
	}
	for _, base := range []string{"0", "1", "37", "38", "-1", "-10", "0x80000000", "256", "0x0a00"} {
		for _, name := range []string{".", "U."} {
			wantCode(t, "(LIT) "+base+" BASE ! (LIT) 5 "+name+" EXIT", api.ThrowNumber, "5", "")
		}
	}
}
