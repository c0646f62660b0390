package vm_test

import (
	"math"
	"strconv"
	"testing"

	"lightship/api"
	"lightship/image"
	"lightship/prim"
)

// P14.2: (GO) goes on in an earlier word, from any start on, and returns where this one does.
func TestGo(t *testing.T) {
	v := with(t, "(LIT) 1 (LIT) 2 (LIT) 3 EXIT", "(LIT) 9 (GO) 0 2 EXIT", "w1 (LIT) 8 EXIT", "(GO) 0 0 EXIT", "(GO) 0 6 EXIT", "(GO) 2 1 EXIT")
	for i, wanted := range map[int]string{1: "9 2 3", 2: "9 2 3 8", 3: "1 2 3", 4: "", 5: "8"} {
		v.Clear()
		throw, _ := v.Run(i, fuel)
		want(t, "throw", throw, api.ThrowNone)
		wantAll(t, "data of w"+strconv.Itoa(i), v.Data(), code(wanted))
	}
	throw, left := v.Run(3, 4)
	want(t, "(GO) is one instruction", throw, api.ThrowFuel)
	want(t, "left", left, 0)
	throw, left = v.Run(3, 5)
	want(t, "(GO) is one instruction", throw, api.ThrowNone)
	want(t, "left", left, 0)
}

// P14.2: (DOES) changes the last word's code, and returns; behind its datum that word goes on in the one with (DOES).
func TestDoes(t *testing.T) {
	l := words("(LIT) 7 (DOES) 4 @ . EXIT", "w0 (LIT) 8 EXIT", "(LIT) 0x100060 EXIT")
	l[2].Name, l[2].Flags = "five", api.FlagNow
	v := withWords(t, ram, room, l)
	v.Store(0x100060, 5)
	throw, left := v.Run(1, 100)
	want(t, "throw", throw, api.ThrowNone)
	want(t, "fuel taken", 100-left, 5)
	wantAll(t, "data", v.Data(), []uint32{7, 8}) // what is behind (DOES) is not executed
	want(t, "output", v.Out(), "")
	l[2].Code = code("(LIT) 0x100060 (GO) 0 4 EXIT")
	wantWords(t, "words", v.Words(), l)
	wantWindow(t, v, l)
	v.Clear()
	wantRun(t, v, api.ThrowNone, "", "5 ")
}

// P14.2: (DOES) of a word that has (GO) already, in another word, or the same.
func TestDoesAgain(t *testing.T) {
	v := with(t, "(DOES) 2 1+ EXIT", "(DOES) 2 2* EXIT", "(LIT) 10 EXIT")
	for _, c := range []struct {
		word    int
		data    string
		changed string
	}{{0, "11", "(LIT) 10 (GO) 0 2 EXIT"}, {1, "20", "(LIT) 10 (GO) 1 2 EXIT"}, {1, "20", "(LIT) 10 (GO) 1 2 EXIT"}, {0, "11", "(LIT) 10 (GO) 0 2 EXIT"}} {
		throw, _ := v.Run(c.word, fuel)
		want(t, "throw", throw, api.ThrowNone)
		wantAll(t, "code", v.Words()[2].Code, code(c.changed))
		v.Clear()
		wantRun(t, v, api.ThrowNone, c.data, "")
		v.Clear()
	}
	wantRun(t, with(t, "(DOES) 3 EXIT 1+ EXIT", "(LIT) 4 (GO) 0 2 EXIT"), api.ThrowNone, "4", "")
}

// P14.2: only literals and EXIT, with nothing but (GO) between, are words that were created.
func TestDoesOfOtherCode(t *testing.T) {
	for _, text := range []string{"EXIT", "(LIT) 5 DUP EXIT", "(LIT) 5 EXIT EXIT", "(LIT) 5 w0 EXIT", "(LIT) 5 (LIT) 6 EXIT", "DUP EXIT", "DUP DUP EXIT", "(BRANCH) 2 EXIT", "(LIT) 5 (BRANCH) 0 EXIT", "(LIT) 5 (LIT) 1 DUP EXIT", "DUP DUP (GO) 0 0 EXIT", "(GO) 0 0 EXIT", "(GO) 0 0 DUP DUP EXIT", "(LIT) 5 (GO) 0 0 DUP EXIT", "(LIT) 5 DUP (GO) 0 0 EXIT", "(LIT) 5 DUP DUP DUP EXIT", "(LIT) 5 (S\") \"a\" EXIT", "(LIT) 5 (GO) 0 0 EXIT EXIT", "w0 w0 EXIT"} {
		v := with(t, "(LIT) 1 (DOES) 4 EXIT", text)
		before := v.Words()
		throw, left := v.Run(0, 10)
		want(t, text, throw, api.ThrowBody)
		want(t, text, left, 8)
		wantAll(t, text, v.Data(), []uint32{1})
		wantWords(t, text, v.Words(), before)
	}
	for _, text := range []string{"(LIT) 5 EXIT", "(LIT) 101 EXIT", "(LIT) -1 EXIT", "(LIT) 5 (GO) 0 0 EXIT", "(LIT) 139 (GO) 0 4 EXIT"} {
		v := with(t, "(LIT) 1 (DOES) 4 EXIT", text)
		throw, _ := v.Run(0, 10)
		want(t, text, throw, api.ThrowNone)
		wantAll(t, text, v.Words()[1].Code, append(v.Words()[1].Code[:2:2], code("(GO) 0 4 EXIT")...))
	}
}

// P14.2: the last word itself, and those that are fixed, are not changed.
func TestDoesOfItself(t *testing.T) {
	v := with(t, "(DOES) 0 EXIT")
	wantRun(t, v, api.ThrowBody, "", "")
	wantWords(t, "words", v.Words(), words("(DOES) 0 EXIT"))
	v = with(t, "(LIT) 5 EXIT", "(DOES) 0 EXIT") // the one ahead isn't the last
	wantRun(t, v, api.ThrowBody, "", "")
	wantWords(t, "words", v.Words(), words("(LIT) 5 EXIT", "(DOES) 0 EXIT"))
}

// P14.2: Fix counts from the first word on, also those that come later.
func TestFix(t *testing.T) {
	l := words("(DOES) 2 EXIT", "EXIT", "(LIT) 5 EXIT")
	for _, c := range []struct {
		n    int
		want api.Throw
	}{{0, api.ThrowNone}, {1, api.ThrowNone}, {2, api.ThrowNone}, {3, api.ThrowBody}, {4, api.ThrowBody}, {2048, api.ThrowBody}, {math.MaxInt, api.ThrowBody}, {-1, api.ThrowNone}, {math.MinInt, api.ThrowNone}} {
		what := "Fix(" + strconv.Itoa(c.n) + ")"
		v := withWords(t, ram, room, l)
		v.Fix(c.n)
		throw, _ := v.Run(0, fuel)
		want(t, what, throw, c.want)
		want(t, what+": cells of the last word", len(v.Words()[2].Code), map[bool]int{true: 3, false: 6}[throw != 0])
		v = withWords(t, ram, room, l[:2]) // the third one comes later
		v.Fix(c.n)
		v.SetWords(l)
		throw, _ = v.Run(0, fuel)
		want(t, what+" ahead", throw, c.want)
		v.SetWords(nil)
		v.SetWords(l)
		throw, _ = v.Run(0, fuel)
		want(t, what+" ahead, other words meanwhile", throw, c.want)
		v.SetWords(append(l[:2:2], words("EXIT", "(LIT) 6 EXIT")...))
		throw, _ = v.Run(0, fuel)
		want(t, what+" of the fourth word", throw, map[bool]api.Throw{true: api.ThrowBody}[c.n > 3])
	}
	v := withWords(t, ram, room, l)
	v.Fix(3)
	want(t, "SetWords of other words than those that are fixed", v.SetWords(words("(DOES) 2 EXIT", "EXIT", "(LIT) 6 EXIT")), api.OK)
	throw, _ := v.Run(0, fuel)
	want(t, "throw", throw, api.ThrowBody)
	v.Fix(-1) // a count below 0 is rejected
	throw, _ = v.Run(0, fuel)
	want(t, "throw behind Fix(-1)", throw, api.ThrowBody)
	v.Fix(2)
	throw, _ = v.Run(0, fuel)
	want(t, "throw behind Fix(2)", throw, api.ThrowNone)
	throw, _ = with(t, "(DOES) 2 EXIT", "EXIT", "(LIT) 5 EXIT").Run(0, fuel)
	want(t, "another machine", throw, api.ThrowNone)
}

// P14.2: twelve bytes more must have room in the window.
func TestDoesWithoutRoom(t *testing.T) {
	for spare := range 30 {
		l := append(words("(DOES) 2 EXIT"), large(65536-18-17-spare)...) // the first word has 18 bytes, the last one 17
		l = append(l, api.Word{Name: "x", Code: code("(LIT) 5 EXIT")})
		b, _ := image.Encode(l)
		want(t, "bytes", len(b), 65536-spare)
		v := withWords(t, ram, room, l)
		throw, _ := v.Run(0, fuel)
		if spare < 12 {
			want(t, "throw", throw, api.ThrowDict)
			wantWords(t, "words", v.Words(), l)
			wantWindow(t, v, l)
			continue
		}
		want(t, "throw", throw, api.ThrowNone)
		wantAll(t, "code", v.Words()[len(l)-1].Code, code("(LIT) 5 (GO) 0 2 EXIT"))
		throw, _ = v.Run(0, fuel)
		want(t, "it has its size already", throw, api.ThrowNone)
	}
}

// P14.2: when the return of a (DOES) throws, the word is changed, and the cell is taken.
func TestDoesWhoseReturnThrows(t *testing.T) {
	changed := code("(LIT) 5 (GO) 0 0 EXIT")
	l := words("(DOES) 0 EXIT", "R> DROP (GO) 0 0 EXIT", "(LIT) 9999 >R (GO) 0 0 EXIT", "(LIT) -2 >R (GO) 0 0 EXIT", "(LIT) 7 (LIT) w2 CATCH R> EXIT", "(LIT) 5 EXIT")
	for word, thrown := range map[int]api.Throw{1: api.ThrowRUnder, 2: api.ThrowReturn, 3: api.ThrowReturn} {
		v := withWords(t, ram, room, l)
		throw, _ := v.Run(word, fuel)
		want(t, "throw", throw, thrown)
		wantAll(t, "code", v.Words()[5].Code, changed)
		wantWindow(t, v, v.Words())
	}
	// The word has taken Caught and 8888 off: only 9999 is left in their place, and (DOES) takes that.
	l[2].Code = code("R> DROP R> DROP (LIT) 9999 >R (GO) 0 0 EXIT")
	l[4].Code = code("(LIT) 8888 >R (LIT) w2 CATCH R> EXIT")
	v := withWords(t, ram, room, l)
	throw, _ := v.Run(4, fuel)
	want(t, "throw", throw, api.ThrowNone)
	wantAll(t, "data", v.Data(), code("-25 0"))
	wantAll(t, "code", v.Words()[5].Code, changed)
	// Nothing is changed, nor taken, by what is its own throw.
	v = with(t, "R> DROP R> DROP (LIT) 9999 >R (DOES) 0 EXIT", "(LIT) 8888 >R (LIT) w0 CATCH R> EXIT")
	wantRun(t, v, api.ThrowNone, "-31 9999", "")
	// A return that ends the run, or goes on behind CATCH.
	v = with(t, "(DOES) 0 EXIT", "(LIT) w0 CATCH (LIT) 3 EXIT", "(LIT) 5 EXIT")
	throw, _ = v.Run(1, fuel)
	want(t, "throw", throw, api.ThrowNone)
	wantAll(t, "data", v.Data(), code("0 3"))
	// There is no room for the 0 behind CATCH: it is thrown, and caught there.
	v = withWords(t, ram, 2, words("(LIT) 1 (LIT) 2 (DOES) 0 EXIT", "(LIT) w0 CATCH EXIT", "(LIT) 5 EXIT"))
	throw, _ = v.Run(1, fuel)
	want(t, "throw", throw, api.ThrowNone)
	wantAll(t, "data", v.Data(), code("-3"))
	want(t, "cells", len(v.Words()[2].Code), 6)
}

// P14.2: a return to the word that was changed needs a start of its code as it is then.
func TestDoesAndReturnToTheWord(t *testing.T) {
	for start, thrown := range map[int]api.Throw{0: 0, 1: api.ThrowReturn, 2: 0, 3: api.ThrowReturn, 4: api.ThrowReturn, 5: 0, 6: api.ThrowReturn} {
		v := with(t, "(LIT) "+strconv.Itoa(1024+start)+" >R (DOES) 5 EXIT", "(LIT) 5 EXIT")
		throw, _ := v.Run(0, fuel)
		want(t, "return to "+strconv.Itoa(start), throw, thrown)
		wanted := ""
		if start == 0 {
			wanted = "5"
		}
		wantAll(t, "data", v.Data(), code(wanted))
	}
}

// P14.4: whatever (DOES) did, words are right.
func TestWordsStayRight(t *testing.T) {
	v := with(t, "(DOES) 3 EXIT 1+ EXIT", "(DOES) 4 DUP EXIT (BRANCH) 2 EXIT", "(LIT) 5 EXIT")
	for i := range 2 {
		v.Run(i, fuel)
		want(t, "the first wrong word", prim.Check(v.Words()), -1)
		want(t, "SetWords of them", v.SetWords(v.Words()), api.OK)
	}
}
