package vm_test

import (
	"strconv"
	"strings"
	"testing"

	"lightship/api"
)

// P14.2: handlers within one another: the last one catches, and is there no more then.
func TestCatchWithinCatch(t *testing.T) {
	wantRun(t, with(t, "(LIT) 7 THROW EXIT", "(LIT) w0 CATCH (LIT) 1 EXIT", "(LIT) w1 CATCH (LIT) 2 EXIT"), api.ThrowNone, "7 1 0 2", "")
	wantRun(t, with(t, "(LIT) 7 THROW EXIT", "(LIT) w0 CATCH 1+ THROW EXIT", "(LIT) w1 CATCH (LIT) 2 EXIT"), api.ThrowNone, "8 2", "")
	wantRun(t, with(t, "(LIT) 7 THROW EXIT", "(LIT) w0 CATCH 1+ THROW EXIT", "(LIT) w1 CATCH 1+ THROW EXIT"), 9, "", "")
	// Handlers one by one, as many as there is room for, each of which adds 1 to what was thrown, and throws that.
	v := with(t, "DUP 0= (0BRANCH) 7 (LIT) 50 THROW 1- (LIT) w0 CATCH 1+ THROW EXIT")
	for n := range uint32(room) {
		v.Clear()
		v.Push(n)
		throw, _ := v.Run(0, fuel)
		want(t, "throw from "+strconv.Itoa(int(n)), throw, api.Throw(50+n))
		want(t, "cells", len(v.Data()), 1)
	}
}

// P14.2: where there is no room for the 0 behind what returned, that is what CATCH catches, as its handler is there still.
func TestCatchWithoutRoomForItsZero(t *testing.T) {
	v := withWords(t, ram, 3, words("(LIT) 1 (LIT) 2 (LIT) 3 EXIT", "(LIT) w0 CATCH EXIT"))
	wantRun(t, v, api.ThrowNone, "-3", "")
	v = withWords(t, ram, 3, words("(LIT) 2 (LIT) 3 EXIT", "(LIT) w0 CATCH EXIT"))
	wantRun(t, v, api.ThrowNone, "2 3 0", "")
	v = withWords(t, ram, 3, words("(LIT) 1 (LIT) 2 EXIT", "(LIT) 9 (LIT) w0 CATCH EXIT", "(LIT) w1 CATCH EXIT"))
	wantRun(t, v, api.ThrowNone, "9 -3 0", "")
	v = withWords(t, ram, 1, words("R> DROP EXIT", "(LIT) w0 EXECUTE EXIT"))
	wantRun(t, v, api.ThrowROver, "w0", "")
}

// P14.2: a return to Caught that CATCH did not leave there: it takes the last handler all the same, or throws.
func TestReturnToCaught(t *testing.T) {
	wantCode(t, "(LIT) 5 (LIT) -2 >R EXIT", api.ThrowReturn, "5", "")
	// Caught is above another Caught: the first return goes on behind CATCH, the second one finds no handler.
	wantRun(t, with(t, "(LIT) -2 >R EXIT", "(LIT) w0 CATCH (LIT) 6 EXIT"), api.ThrowReturn, "0 6", "")
	// Behind the inner CATCH Caught is left: so what is thrown behind it still has the outer handler.
	wantRun(t, with(t, "(LIT) -2 >R EXIT", "(LIT) w0 CATCH (LIT) 6 EXIT", "(LIT) w1 CATCH (LIT) 8 EXIT"), api.ThrowReturn, "0 6 0 8", "")
}

// P14.2: what is thrown without fuel is caught by none; the same number, thrown by THROW, is.
func TestCatchOfNoFuel(t *testing.T) {
	v := with(t, "(BRANCH) 0 EXIT", "(LIT) 9 (LIT) w0 CATCH EXIT")
	throw, left := v.Run(1, 50)
	want(t, "throw", throw, api.ThrowFuel)
	want(t, "left", left, 0)
	wantAll(t, "data", v.Data(), []uint32{9})
	v = with(t, "(LIT) -28 THROW EXIT", "(LIT) 9 (LIT) w0 CATCH EXIT")
	wantRun(t, v, api.ThrowNone, "9 -28", "")
	v.Clear()
	throw, left = v.Run(1, 5)
	want(t, "throw that leaves no fuel", throw, api.ThrowFuel)
	want(t, "left", left, 0)
	wantAll(t, "data", v.Data(), code("9 -28"))
}

// P14.2, P14.4: handlers of a run are no other run's, however it was over.
func TestRunHasNoHandlers(t *testing.T) {
	v := with(t, "(BRANCH) 0 EXIT", "(LIT) w0 CATCH EXIT", "(LIT) 7 THROW EXIT", "R> DROP (LIT) -1 >R EXIT", "(LIT) w3 CATCH EXIT", "CREATE EXIT", "(LIT) w5 CATCH EXIT", "(LIT) -2 >R EXIT")
	for _, before := range []int{1, 4, 6, 0} {
		v.Run(before, 20)
		v.Clear()
		throw, _ := v.Run(2, fuel)
		want(t, "throw behind w"+strconv.Itoa(before), throw, 7)
		v.Run(before, 20)
		v.Clear()
		throw, _ = v.Run(7, fuel)
		want(t, "return to Caught behind w"+strconv.Itoa(before), throw, api.ThrowReturn)
	}
}

// P14.2: handlers whose Caught was taken off the return stack are there still, however many: each adds 1 to what was thrown.
func TestManyHandlers(t *testing.T) {
	v := with(t, "R> DROP (LIT) 1024 >R EXIT", "1- DUP (0BRANCH) 10 (LIT) w0 CATCH 1+ THROW EXIT (LIT) 5 THROW EXIT") // 1024: the beginning of w1
	for _, n := range []uint32{1, 2, 3, 100, 5000} {
		v.Clear()
		v.Push(n)
		throw, _ := v.Run(1, 100*fuel)
		want(t, "throw", throw, api.Throw(5+n-1))
		wantAll(t, "data", v.Data(), []uint32{0})
	}
}

// P14.2: each primitive that needs cells throws without them, before anything else, and leaves what is there.
func TestTooFewCells(t *testing.T) {
	for _, c := range []struct {
		text  string
		takes int
	}{
		{"(0BRANCH) 0", 1}, {"(DO)", 2}, {"(?DO) 0", 2}, {"(+LOOP) 0", 1}, {"EXECUTE", 1}, {"CATCH", 1}, {"THROW", 1}, {"EMIT", 1}, {"TYPE", 2}, {"SPACES", 1},
		{"ALLOT", 1}, {",", 1}, {"C,", 1}, {"#", 2}, {"#S", 2}, {"#>", 2}, {"HOLD", 1}, {"SIGN", 1}, {".", 1}, {"U.", 1}, {"+", 2}, {">R", 1}, {"!", 2},
	} {
		for n := range c.takes {
			v := with(t, "(LIT) 0 BASE ! (LIT) -5 ALLOT EXIT", "R> DROP "+strings.Repeat("(LIT) 5 ", n)+c.text+" EXIT")
			v.Store(api.BaseAt, 99)
			wantRun(t, v, api.ThrowUnder, strings.Repeat("5 ", n), "")
		}
	}
}

// P14.2: each primitive that gives cells throws if there is no room for them, before anything else, and leaves what is there.
func TestNoRoomForCells(t *testing.T) {
	for _, text := range []string{"(LIT) 5", "I", "J", "(S\") \"ab\"", "(S\") \"\"", "HERE", "BASE", "STATE", "DUP", "R>"} {
		for room := 1; room < 4; room++ {
			v := withWords(t, ram, room, words(strings.Repeat("(LIT) 9 ", room)+text+" EXIT"))
			wantRun(t, v, api.ThrowOver, strings.Repeat("9 ", room), "")
		}
	}
	v := withWords(t, ram, 2, words("(LIT) 9 (S\") \"ab\" EXIT"))
	wantRun(t, v, api.ThrowOver, "9", "")
	// Those that give as many as they take need no room.
	wantRun(t, withWords(t, ram, 2, words("(LIT) 1 (LIT) 0 # EXIT")), api.ThrowNone, "0 0", "")
	wantRun(t, withWords(t, ram, 2, words("(LIT) 1 (LIT) 0 #S EXIT")), api.ThrowNone, "0 0", "")
	wantRun(t, withWords(t, ram, 2, words("(LIT) 1 (LIT) 0 #> EXIT")), api.ThrowNone, "0x100050 0", "")
	wantRun(t, withWords(t, ram, 2, words("EXIT", "(LIT) 1 (LIT) w0 CATCH EXIT")), api.ThrowNone, "1 0", "")
}

// P14.2: what the return stack throws comes behind what the data stack throws, and before a primitive's own.
func TestNoRoomForReturns(t *testing.T) {
	full := func(n int) string { return strings.Repeat("(LIT) 9 >R ", n) }
	for _, c := range []struct{ text, data string }{
		{"(LIT) 1 (LIT) 2 (DO)", "1 2"}, {"(LIT) 1 (LIT) 2 (?DO) 0", "1 2"}, {"(LIT) 2 (LIT) 2 (?DO) 0", "2 2"}, {"w0", ""}, {"(LIT) w0 EXECUTE", "w0"}, {"(LIT) w0 CATCH", "w0"}, {"(LIT) 1 >R", "1"},
	} {
		v := withWords(t, ram, 4, words("EXIT", full(3)+c.text+" EXIT"))
		wantRun(t, v, api.ThrowROver, c.data, "")
	}
	v := withWords(t, ram, 4, words("EXIT", full(2)+"(LIT) 1 (LIT) 2 (DO) EXIT"))
	wantRun(t, v, api.ThrowROver, "1 2", "")
	v = withWords(t, ram, 4, words("EXIT", full(1)+"(LIT) 1 (LIT) 2 (DO) R> R> R> R> EXIT"))
	wantRun(t, v, api.ThrowRUnder, "2 1 9 -1", "")
}

// P14.2: all throws of a primitive go to a handler, as those of THROW do.
func TestEachThrowIsCaught(t *testing.T) {
	thrown := map[string]api.Throw{
		"DROP DROP": api.ThrowUnder, "(LIT) 1 (LIT) 0 /": api.ThrowDivide, "(LIT) 0 @": api.ThrowMemory, "(LIT) 1 @": api.ThrowAlign, "(LIT) 0 (LIT) 4096 !": api.ThrowRead, "(LIT) -2147483648 (LIT) -1 /": api.ThrowRange,
		"(LIT) 5 EXECUTE": api.ThrowWord, "(LIT) 5 CATCH": api.ThrowWord, "(LIT) 9999 SPACES": api.ThrowOut, "(LIT) 0 (LIT) 9 TYPE": api.ThrowMemory, "(LIT) -1 ALLOT": api.ThrowDict,
		"(LIT) 77 BASE ! (LIT) 5 .": api.ThrowNumber, "(LIT) 9999 >R": api.ThrowReturn, "J": api.ThrowRUnder, "w0": api.ThrowROver, "(DOES) 0": api.ThrowBody, "ABORT": api.ThrowAbort, "(LIT) 1 (BRANCH) 0": api.ThrowOver,
		"(LIT) 7 HOLD (BRANCH) 0": api.ThrowPic,
	}
	for text, wanted := range thrown {
		v := with(t, text+" EXIT", "(LIT) 3 (LIT) w0 CATCH NIP EXIT")
		throw, _ := v.Run(1, fuel)
		want(t, text, throw, api.ThrowNone)
		wantAll(t, text, v.Data(), []uint32{uint32(wanted)})
	}
}
