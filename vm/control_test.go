package vm_test

import (
	"math"
	"strconv"
	"strings"
	"testing"

	"lightship/api"
)

// P14.2: calls and returns, in words that call others, several times, and behind one another.
func TestCalls(t *testing.T) {
	v := with(t, "(LIT) 1 EXIT", "w0 (LIT) 2 w0 EXIT", "w1 w1 (LIT) 3 EXIT EXIT (LIT) 9 EXIT", "EXIT", "w3 w2 w3 w0 EXIT")
	wantRun(t, v, api.ThrowNone, "1 2 1 1 2 1 3 1", "")
	throw, left := v.Run(4, 100)
	want(t, "throw", throw, api.ThrowNone)
	want(t, "fuel taken", 100-left, 29) // w0 takes 2, w1 8, w2 20, w3 1, w4 4 calls and an EXIT
}

// P14.2: a word calls itself, as deep as its room is, and returns.
func TestRecursion(t *testing.T) {
	v := with(t, "?DUP (0BRANCH) 7 1- w0 1+ EXIT (LIT) 0 EXIT")
	for n := range uint32(room) {
		v.Clear()
		v.Push(n)
		throw, _ := v.Run(0, fuel)
		want(t, "throw", throw, api.ThrowNone)
		wantAll(t, "data", v.Data(), []uint32{n})
	}
	v.Clear()
	v.Push(room)
	throw, _ := v.Run(0, fuel)
	want(t, "throw", throw, api.ThrowROver)
	wantAll(t, "data", v.Data(), []uint32{0})
}

// P14.2: branches, forward, back, and to themselves.
func TestBranches(t *testing.T) {
	wantCode(t, "(BRANCH) 4 (LIT) 1 (LIT) 2 EXIT", api.ThrowNone, "2", "")
	wantCode(t, "(LIT) 0 (0BRANCH) 6 (LIT) 1 (LIT) 2 EXIT", api.ThrowNone, "2", "")
	for _, x := range []string{"1", "-1", "0x80000000", "256", "0x100000000"} {
		wanted := "1 2"
		if x == "0x100000000" { // a cell has 32 bits
			wanted = "2"
		}
		wantCode(t, "(LIT) "+x+" (0BRANCH) 6 (LIT) 1 (LIT) 2 EXIT", api.ThrowNone, wanted, "")
	}
	wantCode(t, "(LIT) 3 DUP . 1- DUP 0= (0BRANCH) 2 EXIT", api.ThrowNone, "0", "3 2 1 ")
	wantCode(t, "(0BRANCH) 2 EXIT", api.ThrowUnder, "", "")
	wantCode(t, "(BRANCH) 0 EXIT", api.ThrowFuel, "", "")
	wantCode(t, "(BRANCH) 5 (LIT) 1 EXIT (BRANCH) 2 EXIT", api.ThrowNone, "1", "")
}

// P14.2: a return needs a cell of a place: one of a word that is there, and of a start of its code.
func TestReturns(t *testing.T) {
	back := func(x string, thrown api.Throw, data string) {
		t.Helper()
		v := with(t, "(LIT) 1 (LIT) 2 EXIT", "(BRANCH) 7 (LIT) 3 (LIT) 4 EXIT (LIT) "+x+" >R EXIT")
		wantRun(t, v, thrown, data, "")
	}
	back("-1", api.ThrowNone, "")   // Ended
	back("0", api.ThrowNone, "1 2") // the first word's beginning; it returns to Ended
	back("2", api.ThrowNone, "2")   // its second instruction
	back("4", api.ThrowNone, "")    // its EXIT
	back("1", api.ThrowReturn, "")
}

// P14.2: each cell around those of places: starts alone are returned to.
func TestReturnsToEachCell(t *testing.T) {
	l := words("(LIT) 1 (LIT) 2 EXIT", "(LIT) 3 EXIT", "(.\") \"ab\" EXIT", "EXIT")
	starts := map[uint32]string{0: "1 2", 2: "2", 4: "", 1024: "3", 1026: "", 2048: "ab", 2051: "", 3072: ""}
	for _, x := range []uint32{1 << 20, 1<<21 - 1024, 1 << 21, 1 << 22, 1<<31 + 2, 1<<32 - 1024, 1<<32 - 3} {
		starts[x] = "none"
	}
	for x := range uint32(3 * 4096) {
		if _, ok := starts[x]; !ok {
			starts[x] = "none"
		}
	}
	for x, does := range starts {
		v := withWords(t, ram, room, append(l, api.Word{Name: "x", Code: code("(LIT) " + strconv.Itoa(int(x)) + " >R EXIT")}))
		if 4*1024 <= x && x < 5*1024 { // the last word itself
			throw, _ := v.Run(4, fuel)
			wanted := api.ThrowReturn
			switch x - 4*1024 {
			case 0:
				wanted = api.ThrowFuel // it goes there again and again
			case 2:
				wanted = api.ThrowUnder // >R of nothing
			case 3:
				wanted = api.ThrowNone
			}
			want(t, "return to the last word, "+strconv.Itoa(int(x)), throw, wanted)
			continue
		}
		switch does {
		case "none":
			wantRun(t, v, api.ThrowReturn, "", "")
		case "ab":
			wantRun(t, v, api.ThrowNone, "", "ab")
		default:
			wantRun(t, v, api.ThrowNone, does, "")
		}
		if t.Failed() {
			t.Fatal(x)
		}
	}
}

// P14.2: the last start of the last word that may be.
func TestReturnToTheLastPlace(t *testing.T) {
	l := make([]api.Word, 2048)
	for i := range l {
		l[i] = words("EXIT")[0]
	}
	l[2047].Code = code(strings.Repeat("DUP ", 20) + "(LIT) 5 EXIT")
	for x, wanted := range map[string]api.Throw{"0x1ffc14": api.ThrowNone, "0x1ffc15": api.ThrowReturn, "0x1ffc17": api.ThrowReturn, "0x200000": api.ThrowReturn} {
		l[0].Code = code("(LIT) " + x + " >R EXIT")
		v := withWords(t, ram, room, l)
		throw, _ := v.Run(0, fuel)
		want(t, "return to "+x, throw, wanted)
		want(t, "cells", len(v.Data()), map[api.Throw]int{api.ThrowNone: 1}[wanted])
	}
}

// P14.2: EXIT of an empty return stack; and it takes its cell also if this is none to return to.
func TestExitTakesItsCell(t *testing.T) {
	wantCode(t, "R> DROP EXIT", api.ThrowRUnder, "", "")
	// The handler notes three cells: Ended, w2's return, and 5. Then Caught and 5 are removed, and 9999, in place of 5, is taken by EXIT.
	v := with(t, "R> DROP R> DROP (LIT) 9999 >R EXIT", "(LIT) 5 >R (LIT) w0 CATCH R> R> DROP EXIT", "w1 EXIT")
	v.Run(2, fuel)
	wantAll(t, "data", v.Data(), code("-25 0"))
}

// P14.2: loops from an index up to a limit, with steps of one.
func TestLoop(t *testing.T) {
	wantCode(t, "(LIT) 3 (LIT) 0 (DO) I . (LOOP) 5 EXIT", api.ThrowNone, "", "0 1 2 ")
	wantCode(t, "(LIT) 1 (LIT) 0 (DO) I . (LOOP) 5 EXIT", api.ThrowNone, "", "0 ")
	wantCode(t, "(LIT) 1 (LIT) -2 (DO) I . (LOOP) 5 EXIT", api.ThrowNone, "", "-2 -1 0 ")
	wantCode(t, "(LIT) 0x80000001 (LIT) 0x7ffffffe (DO) I U. (LOOP) 5 EXIT", api.ThrowNone, "", "2147483646 2147483647 2147483648 ")
	v := with(t, "(LIT) 2 (LIT) 2 (DO) I . (LOOP) 5 EXIT") // all numbers, as it has to come round
	throw, _ := v.Run(0, 31)
	want(t, "throw", throw, api.ThrowFuel)
	want(t, "output", v.Out(), "2 3 4 5 6 7 8 9 10 ")
	wantCode(t, "(LIT) 3 (LIT) 0 (DO) I . (LOOP) 5 R> EXIT", api.ThrowRUnder, "-1", "0 1 2 ") // nothing of it is left
	wantCode(t, "(LOOP) 0 EXIT", api.ThrowRUnder, "", "")
	wantCode(t, "R> DROP (LOOP) 0 EXIT", api.ThrowRUnder, "", "")
	wantCode(t, "(DO) EXIT", api.ThrowUnder, "", "")
	wantCode(t, "(LIT) 1 (DO) EXIT", api.ThrowUnder, "1", "")
	wantCode(t, "(LIT) 1 (LIT) 2 (DO) R> R> EXIT", api.ThrowNone, "2 1", "")
}

// P14.2: (?DO) leaves out a loop without steps, but needs the room for one.
func TestQuestionDo(t *testing.T) {
	wantCode(t, "(LIT) 3 (LIT) 0 (?DO) 10 I . (LOOP) 6 EXIT", api.ThrowNone, "", "0 1 2 ")
	for _, x := range []string{"0", "3", "-1", "0x80000000"} {
		wantCode(t, "(LIT) "+x+" (LIT) "+x+" (?DO) 10 I . (LOOP) 6 R> EXIT", api.ThrowRUnder, "-1", "")
	}
	for _, same := range []string{"5 (LIT) 5", "6 (LIT) 5"} {
		for _, c := range []struct {
			room int
			want api.Throw
		}{{2, api.ThrowROver}, {3, api.ThrowNone}} {
			v := withWords(t, ram, c.room, words("(LIT) "+same+" (?DO) 8 UNLOOP EXIT EXIT"))
			if c.want == api.ThrowNone {
				wantRun(t, v, c.want, "", "")
			} else {
				wantRun(t, v, c.want, strings.Replace(same, "(LIT)", "", 1), "")
			}
		}
	}
	wantCode(t, "(LIT) 1 (?DO) 0 EXIT", api.ThrowUnder, "1", "")
}

// P14.2: one step of a loop, of any size up or down, from all around the limit: whether it ends, and the index if not.
func TestPlusLoop(t *testing.T) {
	v := with(t, "(DO) (+LOOP) 6 (LIT) 1 EXIT R> R> (LIT) 0 EXIT")
	some := []int64{0, 1, 2, 3, 5, 100, 1<<31 - 2, 1<<31 - 1, 1 << 31, 1<<31 + 1, 1<<31 + 2, 1<<32 - 100, 1<<32 - 5, 1<<32 - 3, 1<<32 - 2, 1<<32 - 1}
	ended, onward := 0, 0
	for _, limit := range some {
		for _, index := range some {
			for _, step := range some {
				v.Clear()
				for _, x := range []int64{step, limit, index} {
					v.Push(uint32(x))
				}
				throw, _ := v.Run(0, fuel)
				want(t, "throw", throw, api.ThrowNone)
				wanted := []uint32{uint32(index) + uint32(step), uint32(limit), 0}
				if crossed(limit, index, int64(int32(step))) {
					wanted = []uint32{1}
					ended++
				} else {
					onward++
				}
				wantAll(t, "limit "+strconv.Itoa(int(limit))+" index "+strconv.Itoa(int(index))+" step "+strconv.Itoa(int(step)), v.Data(), wanted)
			}
		}
	}
	if t.Failed() || ended < 500 || onward < 500 {
		t.Error(ended, onward)
	}
}

// crossed reports whether a step leads across the border ahead of the limit: the numbers are on a line, and the limit is there again every 2^32.
func crossed(limit, index, step int64) bool {
	for _, at := range []int64{limit - 1<<32, limit, limit + 1<<32} {
		if index < at && at <= index+step || index+step < at && at <= index {
			return true
		}
	}
	return false
}

// P14.2: whole loops with steps that are not one.
func TestPlusLoops(t *testing.T) {
	loop := func(limit, index, step string) string {
		return "(LIT) " + limit + " (LIT) " + index + " (DO) I . (LIT) " + step + " (+LOOP) 5 EXIT"
	}
	wantCode(t, loop("10", "0", "3"), api.ThrowNone, "", "0 3 6 9 ")
	wantCode(t, loop("9", "0", "3"), api.ThrowNone, "", "0 3 6 ")
	wantCode(t, loop("0", "6", "-2"), api.ThrowNone, "", "6 4 2 0 ")
	wantCode(t, loop("0", "5", "-2"), api.ThrowNone, "", "5 3 1 ")
	wantCode(t, loop("0", "0", "-1"), api.ThrowNone, "", "0 ")
	wantCode(t, loop("-1", "0", "-1"), api.ThrowNone, "", "0 -1 ")
	wantCode(t, loop("5", "4", "0x7fffffff"), api.ThrowNone, "", "4 ")
	wantCode(t, loop("5", "6", "0x80000000"), api.ThrowNone, "", "6 ")
	v := with(t, loop("5", "4", "0"))
	throw, _ := v.Run(0, 15)
	want(t, "a step of 0", throw, api.ThrowFuel)
	want(t, "output", v.Out(), "4 4 4 ")
	wantCode(t, "(LIT) 1 (LIT) 2 (DO) (+LOOP) 5 EXIT", api.ThrowUnder, "", "")
	wantCode(t, "(LIT) 1 (+LOOP) 2 EXIT", api.ThrowRUnder, "1", "")
	wantCode(t, "R> DROP (+LOOP) 2 EXIT", api.ThrowUnder, "", "")
}

// P14.2: loops in one another, and left.
func TestIAndJ(t *testing.T) {
	wantCode(t, "(LIT) 2 (LIT) 0 (DO) (LIT) 12 (LIT) 10 (DO) J . I . (LOOP) 10 (LOOP) 5 EXIT", api.ThrowNone, "", "0 10 0 11 1 10 1 11 ")
	wantCode(t, "(LIT) 2 (LIT) 0 (DO) UNLOOP R> EXIT", api.ThrowRUnder, "-1", "")
	wantCode(t, "I EXIT", api.ThrowNone, "-1", "")
	wantCode(t, "R> DROP I EXIT", api.ThrowRUnder, "", "")
	wantCode(t, "(LIT) 3 >R J EXIT", api.ThrowRUnder, "", "")
	wantCode(t, "(LIT) 3 >R (LIT) 4 >R J UNLOOP EXIT", api.ThrowNone, "-1", "")
	wantCode(t, "UNLOOP EXIT", api.ThrowRUnder, "", "")
	wantCode(t, "(LIT) 3 >R UNLOOP EXIT", api.ThrowRUnder, "", "")
	for _, name := range []string{"I", "J"} {
		v := withWords(t, ram, 3, words("(LIT) 7 >R (LIT) 8 >R (LIT) 1 DUP DUP "+name+" EXIT"))
		wantRun(t, v, api.ThrowOver, "1 1 1", "")
		v = withWords(t, ram, 3, words("R> DROP (LIT) 1 DUP DUP "+name+" EXIT"))
		wantRun(t, v, api.ThrowOver, "1 1 1", "") // what the data stack throws comes first
	}
}

// P14.2: EXECUTE of each word, and of cells that call none.
func TestExecute(t *testing.T) {
	v := with(t, "(LIT) 1 EXIT", "(LIT) 2 EXIT", "EXECUTE (LIT) 3 EXIT")
	for i, wanted := range []string{"1 3", "2 3"} {
		v.Clear()
		v.Push(api.FirstCall + uint32(i))
		wantRun(t, v, api.ThrowNone, wanted, "")
	}
	for _, x := range []uint32{0, 1, 101, 255, 259, 260, 512, 1 << 31, math.MaxUint32, math.MaxUint32 - 1} {
		for _, name := range []string{"EXECUTE", "CATCH"} {
			v = with(t, "EXIT", "EXIT", name+" EXIT")
			v.Push(x)
			throw, left := v.Run(2, 10)
			want(t, name, throw, api.ThrowWord)
			want(t, name, left, 9)
			wantAll(t, name, v.Data(), []uint32{x})
		}
	}
	for _, name := range []string{"EXECUTE", "CATCH"} {
		wantCode(t, name+" EXIT", api.ThrowUnder, "", "")
		wantRun(t, withWords(t, ram, 1, words("(LIT) w0 "+name+" EXIT")), api.ThrowROver, "w0", "")
		wantRun(t, withWords(t, ram, 1, words("(LIT) w1 "+name+" EXIT")), api.ThrowWord, "w1", "")
	}
	v = with(t, "(LIT) w0 EXECUTE EXIT") // itself, as long as there is room
	throw, left := v.Run(0, 100)
	want(t, "itself", throw, api.ThrowROver)
	want(t, "fuel taken", 100-left, 2*room)
	wantAll(t, "data", v.Data(), code("w0"))
}

// P14.2: THROW takes its cell; of 0 it does nothing.
func TestThrow(t *testing.T) {
	wantCode(t, "(LIT) 1 (LIT) 0 THROW (LIT) 2 EXIT", api.ThrowNone, "1 2", "")
	for _, n := range []int{1, 7, -1, -2, -4, -13, -28, 256, 1<<31 - 1, -1 << 31} {
		wantCode(t, "(LIT) 9 (LIT) "+strconv.Itoa(n)+" THROW (LIT) 2 EXIT", api.Throw(n), "9", "")
		wantRun(t, with(t, "(LIT) 9 (LIT) "+strconv.Itoa(n)+" THROW (LIT) 2 EXIT", "(LIT) w0 CATCH EXIT"), api.ThrowNone, strconv.Itoa(n), "")
	}
	wantCode(t, "THROW EXIT", api.ThrowUnder, "", "")
	wantCode(t, "(LIT) 5 ABORT EXIT", -1, "5", "")
	wantRun(t, with(t, "(LIT) 5 ABORT EXIT", "(LIT) w0 CATCH EXIT"), api.ThrowNone, "-1", "")
}

// P14.2: CATCH of what throws nothing gives 0 behind what it left.
func TestCatchOfNoThrow(t *testing.T) {
	wantRun(t, with(t, "(LIT) 1 (LIT) 2 EXIT", "(LIT) 9 (LIT) w0 CATCH (LIT) 3 EXIT"), api.ThrowNone, "9 1 2 0 3", "")
	wantRun(t, with(t, "DROP EXIT", "(LIT) 9 (LIT) w0 CATCH EXIT"), api.ThrowNone, "0", "")
	// A handler is there no more behind it: what is thrown then ends the run.
	wantRun(t, with(t, "EXIT", "(LIT) w0 CATCH (LIT) 5 THROW (LIT) 6 EXIT"), 5, "0", "")
	wantRun(t, with(t, "EXIT", "(LIT) w0 CATCH DROP (LIT) -2 >R EXIT"), api.ThrowReturn, "", "")
	wantCode(t, "(LIT) -2 >R EXIT", api.ThrowReturn, "", "")
}

// P14.2: CATCH of what throws: both stacks have as many cells as before, 0 for those that are missing, and the code.
func TestCatchOfThrow(t *testing.T) {
	wantRun(t, with(t, "(LIT) 1 (LIT) 2 (LIT) 7 THROW EXIT", "(LIT) 9 (LIT) w0 CATCH (LIT) 3 EXIT"), api.ThrowNone, "9 7 3", "")
	wantRun(t, with(t, "DROP DROP (LIT) 7 THROW EXIT", "(LIT) 8 (LIT) 9 (LIT) w0 CATCH (LIT) 3 EXIT"), api.ThrowNone, "0 0 7 3", "")
	wantRun(t, with(t, "DROP DROP (LIT) 5 (LIT) 7 THROW EXIT", "(LIT) 8 (LIT) 9 (LIT) w0 CATCH EXIT"), api.ThrowNone, "5 0 7", "")
	wantRun(t, with(t, "(LIT) 1 >R (LIT) 2 >R (LIT) 7 THROW EXIT", "(LIT) 3 >R (LIT) w0 CATCH R> EXIT"), api.ThrowNone, "7 3", "")
	wantRun(t, with(t, "R> R> 2DROP (LIT) 7 THROW EXIT", "(LIT) 3 >R (LIT) 4 >R (LIT) w0 CATCH R> R> EXIT"), api.ThrowNone, "7 0 3", "")
	wantRun(t, with(t, "(LIT) 1 (LIT) 0 / EXIT", "(LIT) w0 CATCH EXIT"), api.ThrowNone, "-10", "")
}
