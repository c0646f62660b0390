package prim_test

import (
	"math"
	"slices"
	"strings"
	"testing"

	"lightship/api"
	"lightship/prim"
)

// word is one with this code.
func word(code ...uint32) api.Word {
	return api.Word{Name: "x", Code: code}
}

// three are right words, each of which may be told to go to, or be called by, what comes behind: starts 0 2, 0 1 2 3, and 0 3.
func three() []api.Word {
	return []api.Word{
		{Name: "one", Code: []uint32{102, 1, 101}},
		{Name: "two", Flags: api.FlagNow, Code: []uint32{256, 1, 16, 101}},
		{Name: "go", Flags: api.FlagAll, Code: []uint32{139, 1, 2, 101}},
	}
}

func wantCheck(t *testing.T, what string, l []api.Word, wanted int) {
	t.Helper()
	if i := prim.Check(l); i != wanted {
		t.Errorf("%s: Check of %d words: %d, want %d", what, len(l), i, wanted)
	}
}

// wantRight fails unless a word with this code is right behind the three.
func wantRight(t *testing.T, what string, code ...uint32) {
	t.Helper()
	wantCheck(t, what, append(three(), word(code...)), -1)
}

// wantWrong fails unless a word with this code is the first one that is not right behind the three, whatever comes behind it.
func wantWrong(t *testing.T, what string, code ...uint32) {
	t.Helper()
	wantCheck(t, what, append(three(), word(code...)), 3)
	wantCheck(t, what+", and a right one", append(three(), word(code...), word(101)), 3)
	wantCheck(t, what+", and a wrong one", append(three(), word(code...), word()), 3)
}

// P11.3 (R6): without words none is wrong.
func TestCheckNoWords(t *testing.T) {
	wantCheck(t, "nil", nil, -1)
	wantCheck(t, "no words", []api.Word{}, -1)
	wantCheck(t, "three", three(), -1)
}

// P11.3: whatever a primitive is, a word may have it once its operands are there and right.
func TestCheckEachPrimitive(t *testing.T) {
	for _, p := range defined() {
		code := []uint32{p.Number}
		switch {
		case p.Jump:
			code = append(code, 0)
		case p.Text:
			code = append(code, 3, 0xffffffff)
		case p.Operands == 2:
			code = append(code, 0, 0)
		case p.Operands == 1:
			code = append(code, math.MaxUint32)
		}
		wantRight(t, p.Name, append(slices.Clone(code), 101)...)
		if p.Name != "EXIT" {
			wantWrong(t, p.Name+" at the end", code...)
		}
		wantWrong(t, p.Name+" behind the end", append([]uint32{101, 102}, code...)...)
	}
}

// P11.3: code has at least one instruction, and its last one is EXIT: it is not enough that its last cell is 101.
func TestCheckEnd(t *testing.T) {
	wantWrong(t, "no code")
	wantRight(t, "EXIT", 101)
	wantRight(t, "EXIT twice", 101, 101)
	wantRight(t, "EXIT behind an operand that looks like it", 102, 101, 101)
	wantWrong(t, "a literal 101", 102, 101)
	wantWrong(t, "EXIT and a literal 101", 101, 102, 101)
	wantWrong(t, "a text of 101", 115, 4, 101)
	wantWrong(t, "a longer text that ends with 101", 116, 8, 101, 101)
	wantRight(t, "a text of 101, and EXIT", 115, 4, 101, 101)
	wantWrong(t, "(GO) with 101", 139, 0, 101)
	wantWrong(t, "a place 101", 103, 101)
	wantWrong(t, "DUP", 1)
	wantWrong(t, "DUP behind EXIT", 101, 1)
	wantWrong(t, "a call", 256)
	wantWrong(t, "a call behind EXIT", 101, 256)
	wantWrong(t, "a place of the first start at the end", 101, 103, 0)
}

// P11.3: code is whole: all of it is instructions.
func TestCheckWhole(t *testing.T) {
	for _, n := range []uint32{0, 74, 100, 141, 255} {
		wantWrong(t, "no primitive", n)
		wantWrong(t, "no primitive first", n, 101)
		wantWrong(t, "no primitive in the middle", 1, n, 101)
		wantWrong(t, "no primitive behind EXIT", 101, n)
		wantRight(t, "a literal that is no primitive's number", 102, n, 101)
	}
	wantWrong(t, "a literal without its cell", 102)
	wantWrong(t, "(GO) with one cell", 139, 0)
	wantWrong(t, "a text that takes EXIT", 115, 5, 0, 101)
	wantRight(t, "a text without bytes", 115, 0, 101)
	wantRight(t, "the longest text", append(textOf(116, 1000), 101)...)
	wantWrong(t, "a text too long", append(textOf(116, 1001), 101)...)
	wantWrong(t, "a text of 2^32 - 1 bytes", 116, math.MaxUint32, 101)
}

// P11.3: calls of earlier words, and of itself; not of later ones, whether they are there or not.
func TestCheckCalls(t *testing.T) {
	for n := range uint32(4) {
		wantRight(t, "a call", 256+n, 101)
		wantRight(t, "many calls", 256, 256+n, 257, 102, 999, 258, 101)
	}
	for _, n := range []uint32{260, 261, 262, 511, 512, 1255, 1256, 65536 + 256, 1<<31 - 1, 1 << 31, 1<<31 + 256, math.MaxUint32 - 255, math.MaxUint32} {
		wantWrong(t, "a call of a later word", n, 101)
		wantWrong(t, "a call of a later word among others", 256, 259, n, 1, 101)
		wantRight(t, "a literal", 102, n, 101)
		wantRight(t, "a text", 115, 4, n, 101)
	}
	for i := range 300 {
		l := slices.Repeat([]api.Word{word(101)}, i)
		wantCheck(t, "a call of itself", append(l, word(256+uint32(i), 101)), -1)
		wantCheck(t, "a call of the next word", append(l, word(257+uint32(i), 101), word(101)), i)
		wantCheck(t, "a call of the word ahead", append(l, word(101), word(256+uint32(i), 101)), -1)
	}
}

// P11.3: each place is a start of the same code: any of them, but neither an operand, nor the code's end, nor anything beyond it.
func TestCheckPlaces(t *testing.T) {
	for _, jump := range []uint32{103, 104, 106, 107, 108, 138} {
		code := []uint32{102, 1, jump, 0, 115, 5, 1, 1, 300 - 44, 101} // starts: 0 2 4 8 9
		for at := range uint32(20) {
			code[3] = at
			if slices.Contains([]uint32{0, 2, 4, 8, 9}, at) {
				wantRight(t, "a place that is a start", code...)
			} else {
				wantWrong(t, "a place that is none", code...)
			}
		}
		for _, at := range []uint32{101, 256, 257, 1 << 16, 1<<16 + 2, 1 << 31, 1<<31 + 2, math.MaxUint32 - 1, math.MaxUint32} {
			code[3] = at
			wantWrong(t, "a place beyond the end", code...)
		}
		wantRight(t, "itself", jump, 0, 101)
		wantWrong(t, "its own operand", jump, 1, 101)
		wantRight(t, "the last instruction", jump, 2, 101)
		wantWrong(t, "the end", jump, 3, 101)
		wantRight(t, "two places", jump, 2, jump, 0, 101)
		wantWrong(t, "the first one is wrong", jump, 1, jump, 0, 101)
		wantWrong(t, "the second one is wrong", jump, 2, jump, 3, 101)
		wantWrong(t, "a place that is a start of another word alone", jump, 1, 101)
	}
	wantRight(t, "literals are no places", 102, 1, 102, 99, 101)
	wantRight(t, "numbers of texts are no places", 115, 1, 99, 101)
}

// P11.3: (GO) has an earlier word, not itself nor a later one, and a start there: not one of its own code.
func TestCheckGo(t *testing.T) {
	starts := [][]uint32{{0, 2}, {0, 1, 2, 3}, {0, 3}}
	for i := range uint32(6) {
		for at := range uint32(7) {
			if i < 3 && slices.Contains(starts[i], at) {
				wantRight(t, "a start of an earlier word", 139, i, at, 101)
				wantRight(t, "the same one twice", 139, i, at, 139, i, at, 101)
				wantWrong(t, "a second one of a later word", 139, i, at, 139, 3, 0, 101)
				wantWrong(t, "a second one without a start", 139, i, at, 139, 0, 1, 101)
			} else {
				wantWrong(t, "no start of an earlier word", 139, i, at, 101)
				wantWrong(t, "no start of an earlier word, behind one", 139, 0, 0, 139, i, at, 101)
			}
		}
	}
	for _, n := range []uint32{256, 1 << 16, 1<<31 - 1, 1 << 31, math.MaxUint32} {
		wantWrong(t, "a word beyond all", 139, n, 0, 101)
		wantWrong(t, "a place beyond all", 139, 1, n, 101)
	}
	wantWrong(t, "a start of its own code alone", 139, 0, 3, 1, 101)
	wantCheck(t, "the first word goes to itself", []api.Word{word(139, 0, 0, 101)}, 0)
	wantCheck(t, "the first word goes to the second one", []api.Word{word(139, 1, 0, 101), word(101)}, 0)
	wantCheck(t, "the second word goes to itself", []api.Word{word(101), word(139, 1, 0, 101)}, 1)
}

// P11.3: many words that go to the same one, and to those that go there.
func TestCheckGoAgain(t *testing.T) {
	l := []api.Word{word(102, 1, 1, 101)}
	for i := range uint32(200) {
		l = append(l, word(139, 0, 2, 139, i, 0, 139, i, 3-3*min(i, 1), 101))
	}
	wantCheck(t, "all go", l, -1)
	wantCheck(t, "the last one does not", append(slices.Clone(l), word(139, 0, 1, 101)), 201)
	wantCheck(t, "the last one goes where the first one has no start, but others have", append(slices.Clone(l), word(139, 0, 6, 101)), 201)
	wantCheck(t, "the last one goes where others have no start, but the first one has", append(slices.Clone(l), word(139, 9, 2, 101)), 201)
}

// P11.3: words that image.Right refuses are not right, whatever their code is.
func TestCheckNames(t *testing.T) {
	long := append(slices.Repeat([]uint32{1}, 1000), 101)
	for _, w := range []api.Word{
		{}, {Code: []uint32{101}}, {Name: "a b", Code: []uint32{101}}, {Name: "\x00", Code: []uint32{101}}, {Name: "é", Code: []uint32{101}}, {Name: strings.Repeat("a", 32), Code: []uint32{101}},
		{Name: "x", Flags: 4, Code: []uint32{101}}, {Name: "x", Flags: 255, Code: []uint32{101}}, {Name: "x", Code: long},
	} {
		for i := range 4 {
			wantCheck(t, w.Name, slices.Insert(three(), i, w), i)
			wantCheck(t, w.Name+" twice", append(slices.Insert(three(), i, w), w), i)
		}
	}
	wantCheck(t, "the longest name, all flags, the most cells", append(three(), api.Word{Name: strings.Repeat("~", 31), Flags: 3, Code: long[1:]}), -1)
	wantCheck(t, "names that are the same", []api.Word{word(101), word(101), word(256, 257, 101)}, -1)
}

// P11.3: one wrong word, first, last, and among right ones; of several the first one.
func TestCheckTheFirst(t *testing.T) {
	right := slices.Repeat([]api.Word{word(101)}, 40)
	for _, wrong := range []api.Word{word(), word(0), word(1), word(102, 101), word(256+41, 101), word(103, 2), word(103, 1, 101), word(139, 41, 0, 101), {Name: "", Code: []uint32{101}}} {
		for i := range right {
			l := slices.Clone(right)
			l[i] = wrong
			wantCheck(t, "one", l, i)
			for _, j := range []int{0, 20, 39} {
				m := slices.Clone(l)
				m[j] = word()
				wantCheck(t, "two", m, min(i, j))
			}
		}
	}
}

// P11.3, P11.4: each beginning of a right list is right; and what comes behind changes nothing.
func TestCheckBeginnings(t *testing.T) {
	l := append(three(), word(258, 259, 104, 5, 1, 101), word(139, 3, 4, 101), word(138, 3, 1, 116, 2, 0, 103, 0, 101), word(259, 101))
	for n := range len(l) + 1 {
		wantCheck(t, "a beginning", l[:n], -1)
		wantCheck(t, "a beginning, and a wrong one", append(slices.Clone(l[:n]), word()), n)
	}
}

// P11.3 (R3, R4): words stay as they are, and what was checked once does not count.
func TestCheckAgain(t *testing.T) {
	l := append(three(), word(139, 1, 1, 103, 0, 101))
	memory := append(slices.Clone(l), word(1, 2, 3))
	given := memory[:4]
	wantCheck(t, "all", given, -1)
	wantCheck(t, "all again", given, -1)
	for i, w := range append(three(), word(139, 1, 1, 103, 0, 101), word(1, 2, 3)) {
		want(t, "name", memory[i].Name, w.Name)
		want(t, "flags", memory[i].Flags, w.Flags)
		wantAll(t, "code", memory[i].Code, w.Code)
	}
	given[1].Code[0] = 102
	wantCheck(t, "with no start there any more", given, 3)
	given[1].Code[0] = 258
	wantCheck(t, "with a call of a later word", given, 1)
}

// P11.3: as many words as a dictionary has, with as many cells as a word has.
func TestCheckMany(t *testing.T) {
	code := slices.Repeat([]uint32{103, 0}, 499)
	l := slices.Repeat([]api.Word{word(append(code, 1, 101)...)}, 2048)
	wantCheck(t, "all", l, -1)
	last := slices.Clone(l[2047].Code)
	last[997] = 1
	l[2047] = word(last...)
	wantCheck(t, "the last place of the last one is none", l, 2047)
}
