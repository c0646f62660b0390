package vm_test

import (
	"math"
	"slices"
	"strconv"
	"strings"
	"testing"

	"lightship/api"
	"lightship/vm"
)

// wantStep fails unless a Run or a Resume throws this, with this fuel left, and is stopped, or not.
func wantStep(t *testing.T, what string, v *vm.Machine, throw api.Throw, left int, thrown api.Throw, fuel int, stopped bool) {
	t.Helper()
	want(t, what+": throw", throw, thrown)
	want(t, what+": fuel left", left, fuel)
	want(t, what+": stopped", v.Stopped(), stopped)
}

// P14.2: words that are not there; the fuel stays as it is.
func TestRunOfNoWord(t *testing.T) {
	v := with(t, "EXIT", "EXIT")
	v.Push(5)
	for _, word := range []int{2, 3, 256, 258, -1, -2, math.MaxInt, math.MinInt, 1 << 32, 2048} {
		for _, fuel := range []int{0, 1, 77, -1, math.MinInt, math.MaxInt} {
			throw, left := v.Run(word, fuel)
			wantStep(t, "Run of "+strconv.Itoa(word), v, throw, left, api.ThrowWord, fuel, false)
		}
	}
	wantAll(t, "data", v.Data(), []uint32{5})
}

// P14.2: one unit of fuel for each instruction; without fuel that is thrown, and 0 is left.
func TestFuel(t *testing.T) {
	v := with(t, "(LIT) 2 (LIT) 3 + EXIT")
	for fuel := -3; fuel < 10; fuel++ {
		v.Clear()
		throw, left := v.Run(0, fuel)
		if fuel < 4 {
			wantStep(t, "Run", v, throw, left, api.ThrowFuel, 0, false)
		} else {
			wantStep(t, "Run", v, throw, left, api.ThrowNone, fuel-4, false)
		}
		wantAll(t, "data", v.Data(), [][]uint32{nil, {2}, {2, 3}, {5}}[min(max(fuel, 0), 3)])
	}
	v.Clear()
	throw, left := v.Run(0, math.MinInt)
	wantStep(t, "Run", v, throw, left, api.ThrowFuel, 0, false)
	throw, left = v.Run(0, math.MaxInt)
	wantStep(t, "Run", v, throw, left, api.ThrowNone, math.MaxInt-4, false)
	v = with(t, "(LIT) 1 (LIT) 0 / EXIT")
	throw, left = v.Run(0, 3)
	wantStep(t, "the last instruction throws", v, throw, left, api.ThrowDivide, 0, false)
	throw, left = v.Run(0, 10)
	wantStep(t, "the third instruction throws", v, throw, left, api.ThrowDivide, 7, false)
	v = with(t, "(BRANCH) 0 EXIT")
	throw, left = v.Run(0, 100000)
	wantStep(t, "it goes round", v, throw, left, api.ThrowFuel, 0, false)
}

// P14.2: each instruction takes one unit, with operands or without.
func TestFuelOfEach(t *testing.T) {
	text := "(LIT) 3 (LIT) 1 (DO) I DROP (LOOP) 5 (S\") \"hello_you\" TYPE (.\") \"abcdefghi\" (LIT) w0 EXECUTE (LIT) w0 CATCH DROP (BRANCH) 33 EXIT"
	v := with(t, "EXIT", strings.Replace(text, "33", strconv.Itoa(len(code(text))-1), 1))
	throw, left := v.Run(1, 100)
	want(t, "throw", throw, api.ThrowNone)
	want(t, "fuel taken", 100-left, 3+2*3+2+1+3+3+1+1+1) // the loop goes round twice
	want(t, "output", v.Out(), "hello youabcdefghi")
}

// P14.2: nothing of a run is left on the return stack, however it was over.
func TestReturnStackIsEmptyBehindARun(t *testing.T) {
	v := withWords(t, ram, 4, words("(LIT) 1 >R (LIT) 0 / EXIT", "(LIT) 1 >R (LIT) 2 >R (LIT) -1 >R EXIT", "(LIT) 1 >R (BRANCH) 3 EXIT", "(LIT) 1 >R (LIT) 2 >R CREATE EXIT", "(LIT) 1 (LIT) 2 (LIT) 3 >R >R >R EXIT", "R> DROP R> EXIT"))
	for _, before := range []int{0, 1, 2, 3, 4, 5} {
		v.Run(before, 20)
		v.Clear()
		throw, _ := v.Run(4, 20)
		want(t, "three cells have room, the uppermost of which is no place", throw, api.ThrowReturn)
		v.Run(before, 20)
		v.Clear()
		throw, _ = v.Run(5, 20)
		want(t, "Ended alone is there", throw, api.ThrowRUnder)
		want(t, "cells", len(v.Data()), 0)
	}
}

// P14.2: a run stops at CREATE, which is one instruction, and goes on behind it.
func TestStopAndResume(t *testing.T) {
	v := with(t, "(LIT) 1 CREATE (LIT) 2 CREATE EXIT", "w0 (LIT) 3 EXIT")
	throw, left := v.Run(1, 100)
	wantStep(t, "Run", v, throw, left, api.ThrowNone, 97, true)
	wantAll(t, "data", v.Data(), []uint32{1})
	v.Push(9)
	throw, left = v.Resume(50)
	wantStep(t, "Resume", v, throw, left, api.ThrowNone, 48, true)
	wantAll(t, "data", v.Data(), []uint32{1, 9, 2})
	throw, left = v.Resume(50)
	wantStep(t, "the second Resume", v, throw, left, api.ThrowNone, 47, false)
	wantAll(t, "data", v.Data(), []uint32{1, 9, 2, 3})
	for _, fuel := range []int{0, 50, -7, math.MinInt} {
		throw, left = v.Resume(fuel)
		wantStep(t, "Resume of none", v, throw, left, api.ThrowWord, fuel, false)
	}
	wantAll(t, "data", v.Data(), []uint32{1, 9, 2, 3})
}

// P14.2: Resume without a run, or behind one that is over.
func TestResumeOfNone(t *testing.T) {
	v := with(t, "EXIT", "CREATE EXIT", "(LIT) 0 / EXIT")
	throw, left := v.Resume(5)
	wantStep(t, "Resume ahead of all", v, throw, left, api.ThrowWord, 5, false)
	for _, word := range []int{0, 2} {
		v.Run(word, 5)
		throw, left = v.Resume(5)
		wantStep(t, "Resume behind a run", v, throw, left, api.ThrowWord, 5, false)
	}
	v.Run(1, 0)
	throw, left = v.Resume(5)
	wantStep(t, "Resume behind a run without fuel", v, throw, left, api.ThrowWord, 5, false)
}

// P14.2: CREATE with the last unit of fuel stops; without fuel the run is over, also in Resume.
func TestStopWithoutFuel(t *testing.T) {
	v := with(t, "CREATE CREATE EXIT")
	throw, left := v.Run(0, 1)
	wantStep(t, "Run", v, throw, left, api.ThrowNone, 0, true)
	throw, left = v.Resume(1)
	wantStep(t, "Resume", v, throw, left, api.ThrowNone, 0, true)
	for _, fuel := range []int{0, -1, math.MinInt} {
		v.Run(0, 1)
		throw, left = v.Resume(fuel)
		wantStep(t, "Resume without fuel", v, throw, left, api.ThrowFuel, 0, false)
		throw, left = v.Resume(5)
		wantStep(t, "Resume behind it", v, throw, left, api.ThrowWord, 5, false)
		v.Run(0, 1)
		throw, left = v.Run(0, fuel)
		wantStep(t, "Run without fuel", v, throw, left, api.ThrowFuel, 0, false)
		throw, left = v.Resume(5)
		wantStep(t, "Resume behind it", v, throw, left, api.ThrowWord, 5, false)
	}
	v.Run(0, 1)
	throw, left = v.Run(0, 5)
	wantStep(t, "Run of a machine that is stopped", v, throw, left, api.ThrowNone, 4, true)
	v.Resume(1)
	throw, left = v.Resume(1)
	wantStep(t, "it began anew", v, throw, left, api.ThrowNone, 0, false)
}

// P14.2: a Run of no word leaves a run that is stopped as it is.
func TestRunOfNoWordWhileStopped(t *testing.T) {
	v := with(t, "CREATE (LIT) 5 EXIT")
	v.Run(0, 1)
	throw, left := v.Run(1, 7)
	wantStep(t, "Run of no word", v, throw, left, api.ThrowWord, 7, true)
	throw, left = v.Resume(7)
	wantStep(t, "Resume", v, throw, left, api.ThrowNone, 5, false)
	wantAll(t, "data", v.Data(), []uint32{5})
}

// P14.2: handlers and the return stack stay while a run is stopped; both stacks are as CATCH noted it then.
func TestHandlersStayWhileStopped(t *testing.T) {
	v := with(t, "(LIT) 1 CREATE (LIT) 7 THROW EXIT", "(LIT) 9 (LIT) 8 >R (LIT) w0 CATCH R> EXIT")
	v.Run(1, fuel)
	want(t, "stopped", v.Stopped(), true)
	throw, _ := v.Resume(fuel)
	want(t, "throw", throw, api.ThrowNone)
	wantAll(t, "data", v.Data(), []uint32{9, 7, 8})
	v.Push(6)
	v.Run(1, fuel)
	v.Clear()
	throw, _ = v.Resume(fuel)
	want(t, "throw", throw, api.ThrowNone)
	wantAll(t, "data, that were removed meanwhile", v.Data(), []uint32{0, 0, 0, 0, 0, 7, 8})
	v.Clear()
	v.Run(1, fuel)
	for v.Push(6) == api.ThrowNone {
	}
	throw, _ = v.Resume(fuel)
	want(t, "throw", throw, api.ThrowNone)
	wantAll(t, "data, with no room meanwhile", v.Data(), []uint32{9, uint32(1<<32 + int64(api.ThrowOver)), 8})
}

// P14.1: a run that is stopped goes on if the words stay, with others behind them or not; otherwise it is over.
func TestSetWordsWhileStopped(t *testing.T) {
	l := words("(LIT) 1 CREATE (LIT) 2 EXIT", "w0 (LIT) 3 EXIT")
	change := func(n int, change func(w *api.Word)) []api.Word {
		m := words("(LIT) 1 CREATE (LIT) 2 EXIT", "w0 (LIT) 3 EXIT", "EXIT")
		change(&m[n])
		return m
	}
	for i, c := range []struct {
		words []api.Word
		on    bool
	}{
		{l, true}, {slices.Clone(l), true}, {append(l[:2:2], words("EXIT")...), true}, {append(l[:2:2], words("w2 EXIT", "w0 EXIT", "EXIT")...), true},
		{l[:1], false}, {nil, false}, {append(words("EXIT"), l...), false}, {words("EXIT", "EXIT"), false},
		{change(0, func(w *api.Word) { w.Name = "W0" }), false}, {change(1, func(w *api.Word) { w.Name = "w" }), false}, {change(1, func(w *api.Word) { w.Flags = 1 }), false}, {change(0, func(w *api.Word) { w.Flags = 3 }), false},
		{change(0, func(w *api.Word) { w.Code[1] = 2 }), false}, {change(1, func(w *api.Word) { w.Code[2] = 4 }), false}, {change(1, func(w *api.Word) { w.Code = append(w.Code, 101) }), false}, {change(1, func(w *api.Word) { w.Code = code("EXIT") }), false},
		{change(2, func(w *api.Word) { w.Name = "y" }), true}, {change(2, func(w *api.Word) { w.Flags = 1 }), true},
	} {
		what := "list " + strconv.Itoa(i)
		v := withWords(t, ram, room, l)
		v.Run(1, fuel)
		want(t, what, v.SetWords(c.words), api.OK)
		want(t, what+": stopped", v.Stopped(), c.on)
		wantAll(t, what+": data", v.Data(), []uint32{1})
		throw, left := v.Resume(5)
		if c.on {
			wantStep(t, what, v, throw, left, api.ThrowNone, 1, false)
			wantAll(t, what+": data", v.Data(), []uint32{1, 2, 3})
		} else {
			wantStep(t, what, v, throw, left, api.ThrowWord, 5, false)
		}
	}
}

// P14.1 (R2): words that are not right leave a run stopped.
func TestSetWordsOfWrongOnesWhileStopped(t *testing.T) {
	l := words("(LIT) 1 CREATE (LIT) 2 EXIT")
	v := withWords(t, ram, room, l)
	v.Run(0, fuel)
	for _, wrong := range [][]api.Word{words("1"), append(l[:1:1], words("DUP")...), large(65537), slices.Repeat(words("EXIT"), 2049)} {
		want(t, "SetWords", v.SetWords(wrong), api.ErrWord)
		want(t, "stopped", v.Stopped(), true)
	}
	throw, left := v.Resume(5)
	wantStep(t, "Resume", v, throw, left, api.ThrowNone, 3, false)
	wantAll(t, "data", v.Data(), []uint32{1, 2})
}

// P14.1: a new word, while its maker is stopped, is the one that (DOES) changes.
func TestCreateAndDoes(t *testing.T) {
	l := words("CREATE , (DOES) 4 @ EXIT", "(LIT) 5 w0 EXIT")
	v := withWords(t, ram, room, l)
	v.Run(1, fuel)
	l = append(l, api.Word{Name: "five", Code: []uint32{102, v.Here(), 101}})
	want(t, "SetWords", v.SetWords(l), api.OK)
	throw, _ := v.Resume(fuel)
	want(t, "throw", throw, api.ThrowNone)
	wantAll(t, "code", v.Words()[2].Code, code("(LIT) 0x100050 (GO) 0 4 EXIT"))
	wantRun(t, v, api.ThrowNone, "5", "")
	want(t, "here", v.Here(), api.DataAt+4)
}

// P14.4: with less fuel a run does the same, as far as it goes.
func TestLessFuel(t *testing.T) {
	l := words("DUP . 1+ DUP (LIT) 5 = (0BRANCH) 12 (LIT) 77 THROW EXIT", "(LIT) 3 (LIT) 0 (DO) w0 <# DUP S>D #S #> TYPE (LOOP) 5 EXIT", "(LIT) 0 , (LIT) w1 CATCH (LIT) 4 (LIT) w1 CATCH , DROP EXIT")
	all := withWords(t, ram, room, l)
	all.Push(2)
	throw, left := all.Run(2, fuel)
	want(t, "throw", throw, api.ThrowNone)
	taken, out := fuel-left, all.Out()
	want(t, "there is something to be done", taken > 40 && len(out) > 5, true)
	before := ""
	for n := range taken + 2 {
		v := withWords(t, ram, room, l)
		v.Push(2)
		throw, left := v.Run(2, n)
		got := v.Out()
		want(t, "output goes on", strings.HasPrefix(got, before) && strings.HasPrefix(out, got), true)
		before = got
		if n < taken {
			wantStep(t, "Run", v, throw, left, api.ThrowFuel, 0, false)
			continue
		}
		wantStep(t, "Run", v, throw, left, api.ThrowNone, n-taken, false)
		want(t, "output", got, out)
		wantAll(t, "data", v.Data(), all.Data())
		wantAll(t, "RAM", v.Ram(), all.Ram())
	}
}

// P14.2: the data stack, memory, here and output stay from run to run.
func TestRunsFollow(t *testing.T) {
	v := with(t, "(LIT) 1 (LIT) 65 EMIT (LIT) 7 C, (LIT) 16 BASE ! EXIT", "1+ (LIT) 66 EMIT (LIT) 0 / EXIT")
	v.Run(0, fuel)
	v.Run(1, fuel)
	v.Run(0, fuel)
	wantAll(t, "data", v.Data(), []uint32{2, 0, 1})
	want(t, "output", v.Out(), "ABA")
	want(t, "here", v.Here(), api.DataAt+2)
	x, _ := v.Load(api.BaseAt)
	want(t, "base", x, 16)
	want(t, "SetWords", v.SetWords(nil), api.OK)
	wantAll(t, "data", v.Data(), []uint32{2, 0, 1})
	want(t, "here", v.Here(), api.DataAt+2)
	wantAll(t, "RAM", v.Ram()[80:84], []byte{7, 7, 0, 0})
}
