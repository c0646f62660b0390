package vm_test

import (
	"math"
	"strconv"
	"strings"
	"testing"

	"lightship/api"
)

// P14.2: a pictured number, from its last byte to its first one.
func TestPicture(t *testing.T) {
	wantCode(t, "<# (LIT) 255 (LIT) 0 # (LIT) 46 HOLD #S #> TYPE EXIT", api.ThrowNone, "", "25.5")
	wantCode(t, "<# (LIT) 0 (LIT) 0 #S #> TYPE EXIT", api.ThrowNone, "", "0")
	wantCode(t, "<# (LIT) 7 (LIT) 0 # # # #> TYPE EXIT", api.ThrowNone, "", "007")
	wantCode(t, "<# (LIT) 12 (LIT) 0 # EXIT", api.ThrowNone, "1 0", "")
	wantCode(t, "<# (LIT) 12 (LIT) 5 #> EXIT", api.ThrowNone, "0x100050 0", "")
	wantCode(t, "<# (LIT) 12 (LIT) 0 #S #> EXIT", api.ThrowNone, "0x10004e 2", "")
	wantCode(t, "<# (LIT) 12 (LIT) 0 #S (LIT) -5 SIGN #> TYPE EXIT", api.ThrowNone, "", "-12")
	wantCode(t, "<# (LIT) 12 (LIT) 0 #S (LIT) 5 SIGN (LIT) 0 SIGN (LIT) 0x7fffffff SIGN #> TYPE EXIT", api.ThrowNone, "", "12")
	wantCode(t, "<# (LIT) 0x80000000 SIGN (LIT) -1 SIGN (LIT) 0x1ff HOLD (LIT) 256 HOLD (LIT) 0 (LIT) 0 #> TYPE EXIT", api.ThrowNone, "", "\x00\xff--")
	// It goes on where it was, also behind #>, until <#.
	wantCode(t, "(LIT) 65 HOLD <# (LIT) 66 HOLD (LIT) 0 DUP #> 2DROP (LIT) 67 HOLD (LIT) 0 DUP #> TYPE EXIT", api.ThrowNone, "", "CB")
}

// P14.2: #S writes what is written of double numbers in each base.
func TestDigits(t *testing.T) {
	for _, x := range []uint64{0, 1, 9, 10, 255, 1<<32 - 1, 1 << 32, 1<<63 - 1, 1 << 63, math.MaxUint64} {
		for base := 2; base <= 36; base++ {
			v := with(t, "<# #S #> TYPE EXIT", "<# # # # #> TYPE EXIT")
			v.Store(api.BaseAt, uint32(base))
			v.Push(uint32(x))
			v.Push(uint32(x >> 32))
			text := strings.ToUpper(strconv.FormatUint(x, base))
			wantOut(t, v, 0, text)
			v.Push(uint32(x))
			v.Push(uint32(x >> 32))
			wantOut(t, v, 1, ("00" + text)[len(text)-1:]) // its last three digits
			want(t, "cells", len(v.Data()), 0)
		}
	}
}

// P14.2: bytes of a pictured number are those of RAM, which end where data begin; no others change.
func TestPictureIsInRam(t *testing.T) {
	v := with(t, "<# (LIT) 65 HOLD (LIT) 66 HOLD EXIT", "(LIT) 0 DUP #> EXIT", "<# EXIT")
	v.Store(api.DataAt-4, 0x04030201)
	v.Store(api.DataAt, 0x08070605)
	v.Run(0, fuel)
	wantAll(t, "RAM", v.Ram()[72:86], []byte{0, 0, 0, 0, 1, 2, 'B', 'A', 5, 6, 7, 8, 0, 0})
	v.Run(1, fuel)
	wantAll(t, "#>", v.Data(), []uint32{api.DataAt - 2, 2})
	v.Store(api.DataAt-4, 0x64636261) // its bytes are what is there
	want(t, "bytes", read(t, v, api.DataAt-2, 2), "cd")
	v.Run(0, 3)
	wantAll(t, "RAM", v.Ram()[76:80], []byte{'a', 'b', 'c', 'A'})
	v.Run(2, fuel)
	v.Clear()
	v.Run(1, fuel)
	wantAll(t, "#> behind <#", v.Data(), []uint32{api.DataAt, 0})
}

// P14.3: Clear removes the pictured number; other runs do not.
func TestPictureStaysBetweenRuns(t *testing.T) {
	v := with(t, "(LIT) 65 HOLD EXIT", "(LIT) 66 HOLD (LIT) 0 / EXIT", "(LIT) 0 DUP #> TYPE EXIT")
	v.Run(0, fuel)
	v.Run(1, fuel)
	v.Run(0, 2)
	wantOut(t, v, 2, "ABA")
	v.Clear()
	wantOut(t, v, 2, "")
	v.Run(0, fuel)
	wantOut(t, v, 2, "A")
}

// P14.2: 72 bytes, and not one more: each that needs one more changes nothing.
func TestPictureIsFull(t *testing.T) {
	fill := "(LIT) 72 (LIT) 0 (DO) I (LIT) 33 + HOLD (LOOP) 5 EXIT"
	for _, c := range []struct{ text, data string }{{"(LIT) 65 HOLD", "65"}, {"(LIT) -1 SIGN", "-1"}, {"(LIT) 5 (LIT) 0 #", "5 0"}, {"(LIT) 5 (LIT) 0 #S", "5 0"}, {"(LIT) 0 (LIT) 0 #S", "0 0"}} {
		v := with(t, fill, "w0 "+c.text+" EXIT")
		wantRun(t, v, api.ThrowPic, c.data, "")
		wantPicture72(t, v.Ram())
		v = with(t, strings.Replace(fill, "72", "71", 1), "w0 "+c.text+" (LIT) 0 DUP #> NIP NIP NIP EXIT")
		throw, _ := v.Run(1, fuel)
		data := v.Data()
		if c.data == "65" || c.data == "-1" { // they leave no cells below
			want(t, c.text+" as the last byte", throw, api.ThrowUnder)
			wantAll(t, c.text+" as the last byte", data, []uint32{72})
		} else {
			want(t, c.text+" as the last byte", throw, api.ThrowNone)
			wantAll(t, c.text+" as the last byte", data, []uint32{72})
		}
	}
	wantRun(t, with(t, fill, "w0 (LIT) 0 SIGN (LIT) 1 SIGN EXIT"), api.ThrowNone, "", "")
	wantRun(t, with(t, fill, "w0 (LIT) 0 (LIT) 0 #> EXIT"), api.ThrowNone, "0x100008 72", "")
	wantRun(t, with(t, fill, "w0 <# (LIT) 5 (LIT) 0 #S #> TYPE EXIT"), api.ThrowNone, "", "5")
	// Without a base, this is thrown first, and by those alone that need one.
	wantRun(t, with(t, fill, "w0 (LIT) 0 BASE ! (LIT) 5 (LIT) 0 # EXIT"), api.ThrowNumber, "5 0", "")
	wantRun(t, with(t, fill, "w0 (LIT) 0 BASE ! (LIT) 5 (LIT) 0 #S EXIT"), api.ThrowNumber, "5 0", "")
	wantRun(t, with(t, fill, "w0 (LIT) 0 BASE ! (LIT) 5 HOLD EXIT"), api.ThrowPic, "5", "")
	wantRun(t, with(t, fill, "w0 (LIT) 0 BASE ! <# (LIT) 65 HOLD (LIT) -1 SIGN (LIT) 5 (LIT) 0 #> TYPE EXIT"), api.ThrowNone, "", "-A")
}

func wantPicture72(t *testing.T, b []byte) {
	t.Helper()
	var wanted []byte
	for i := range 72 {
		wanted = append(wanted, byte(33+71-i))
	}
	wantAll(t, "pictured number", b[8:80], wanted)
	wantAll(t, "BASE, STATE and data", append(b[:8:8], b[80:]...), append([]byte{10}, make([]byte, ram-73)...))
}

// P14.2: #S with room for some of the digits alone changes nothing at all.
func TestDigitsAllOrNone(t *testing.T) {
	for room := range 5 {
		v := with(t, "(LIT) "+strconv.Itoa(72-room)+" (LIT) 0 (DO) (LIT) 120 HOLD (LOOP) 5 EXIT", "w0 (LIT) 1234 (LIT) 0 #S #> EXIT")
		if room == 4 {
			wantRun(t, v, api.ThrowNone, "0x100008 72", "")
			want(t, "RAM", string(v.Ram()[8:16]), "1234xxxx")
			continue
		}
		wantRun(t, v, api.ThrowPic, "1234 0", "")
		want(t, "RAM", string(v.Ram()[8:16]), ("\x00\x00\x00\x00xxxxxxxx")[4-room:12-room])
		v.Clear()
	}
	for _, base := range []string{"0", "1", "37", "-1", "0x80000000"} {
		for _, name := range []string{"#", "#S"} {
			wantCode(t, "<# (LIT) "+base+" BASE ! (LIT) 5 (LIT) 6 "+name+" EXIT", api.ThrowNumber, "5 6", "")
		}
	}
	wantCode(t, "(LIT) 2 BASE ! <# (LIT) -1 (LIT) -1 #S #> NIP EXIT", api.ThrowNone, "64", "")
	wantCode(t, "(LIT) 2 BASE ! <# (LIT) -1 (LIT) -1 #S DROP DROP (LIT) 255 (LIT) 0 #S #> NIP EXIT", api.ThrowNone, "72", "")
	wantCode(t, "(LIT) 2 BASE ! <# (LIT) -1 (LIT) -1 #S DROP DROP (LIT) 256 (LIT) 0 #S #> NIP EXIT", api.ThrowPic, "256 0", "")
}
