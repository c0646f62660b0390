package prim_test

import (
	"slices"
	"testing"

	"lightship/api"
	"lightship/prim"
)

// alphabet has instructions of all lengths, what is none, and calls of the first three words; some of them are places, too.
var alphabet = []uint32{0, 1, 2, 3, 101, 102, 103, 115, 139, 256, 257, 258}

// instructions are all of at most so many cells with these alone, by the chapter's Terms.
func instructions(longest int) [][]uint32 {
	var l [][]uint32
	for _, c := range alphabet {
		switch c {
		case 0:
		case 102, 103:
			l = append(l, rows(1, c)...)
		case 139:
			l = append(l, rows(2, c)...)
		case 115:
			for _, n := range alphabet {
				if cells := (int(n) + 3) / 4; 2+cells <= longest {
					l = append(l, rows(cells, c, n)...)
				}
			}
		default:
			l = append(l, rows(0, c)...)
		}
	}
	return l
}

// rows are all that begin with these cells, and have n more.
func rows(n int, first ...uint32) [][]uint32 {
	if n == 0 {
		return [][]uint32{first}
	}
	var l [][]uint32
	for _, c := range alphabet {
		l = append(l, rows(n-1, append(slices.Clone(first), c)...)...)
	}
	return l
}

type cells [5]uint32

// key tells code of at most five cells, which are all others than 9.
func key(code []uint32) cells {
	k := cells{9, 9, 9, 9, 9}
	copy(k[:], code)
	return k
}

// wholeCodes are all whole ones of at most five cells, with their starts: what is made of instructions.
func wholeCodes() map[cells][]int {
	whole := map[cells][]int{key(nil): nil}
	all := instructions(5)
	var grow func(code []uint32, starts []int)
	grow = func(code []uint32, starts []int) {
		for _, next := range all {
			if len(code)+len(next) <= 5 {
				longer, more := slices.Concat(code, next), append(slices.Clone(starts), len(code))
				whole[key(longer)] = more
				grow(longer, more)
			}
		}
	}
	grow(nil, nil)
	return whole
}

// P11.2: all code of at most five cells of few kinds: it is whole if it was made of instructions, and then these are its starts.
func TestAllShortCode(t *testing.T) {
	whole := wholeCodes()
	found := 0
	for n := range 6 {
		for _, code := range rows(n) {
			wanted, ok := whole[key(code)]
			l, got := prim.Starts(code)
			if got != ok || !slices.Equal(l, wanted) {
				t.Fatalf("Starts of %d: %v %v, want %v %v", code, l, got, wanted, ok)
			}
			if ok {
				found++
			}
		}
	}
	want(t, "codes that were found", found, len(whole))
}

// rightBehind is whether a word with code is right behind others that are, by the chapter's Terms: whole tells the starts of all codes.
func rightBehind(others [][]uint32, code []uint32, whole map[cells][]int) bool {
	starts := whole[key(code)]
	if len(starts) == 0 || code[starts[len(starts)-1]] != 101 {
		return false
	}
	for _, at := range starts {
		switch c := code[at]; {
		case c >= 256 && int(c)-256 > len(others):
			return false
		case c == 103 && !slices.Contains(starts, int(code[at+1])):
			return false
		case c == 139 && int(code[at+1]) >= len(others):
			return false
		case c == 139 && !slices.Contains(whole[key(others[code[at+1]])], int(code[at+2])):
			return false
		}
	}
	return true
}

// P11.3: all words with such code, alone, and behind one or two others.
func TestAllShortWords(t *testing.T) {
	whole := wholeCodes()
	for _, others := range [][][]uint32{nil, {{101}}, {{102, 3, 101}}, {{1, 1, 1, 101}, {139, 0, 3, 101}}} {
		var l []api.Word
		for _, code := range others {
			l = append(l, word(code...))
		}
		wantCheck(t, "others", l, -1)
		right := 0
		l = append(l, api.Word{Name: "last"})
		for code := range whole {
			n := len(code)
			for n > 0 && code[n-1] == 9 {
				n--
			}
			l[len(others)].Code = code[:n]
			wanted := len(others)
			if rightBehind(others, code[:n], whole) {
				wanted = -1
				right++
			}
			if got := prim.Check(l); got != wanted {
				t.Fatalf("Check of %d behind %d: %d, want %d", code[:n], others, got, wanted)
			}
		}
		if right < 100 {
			t.Errorf("only %d codes are right behind %d", right, others)
		}
	}
}

// numbers returns a row of numbers that look random, and are the same each time.
func numbers(seed uint32) func(below int) int {
	seed = seed*2654435761 + 1
	return func(below int) int {
		seed ^= seed << 13
		seed ^= seed >> 17
		seed ^= seed << 5
		return int(seed>>3) % below
	}
}

// someCode is right code that looks random, for a word with this index: with calls, places, and (GO) to the words ahead, whose starts these are.
func someCode(next func(below int) int, starts [][]int) ([]uint32, []int) {
	all := defined()
	var code []uint32
	var mine, places []int
	for range next(12) {
		p := all[next(len(all))]
		mine = append(mine, len(code))
		switch {
		case next(4) == 0:
			code = append(code, uint32(256+next(len(starts)+1)))
		case p.Jump:
			places = append(places, len(code)+1)
			code = append(code, p.Number, 0)
		case p.Text:
			code = append(code, textOf(p.Number, next(20))...)
		case p.Operands == 1:
			code = append(code, p.Number, uint32(next(300)))
		case p.Operands == 2 && len(starts) > 0:
			i := next(len(starts))
			code = append(code, p.Number, uint32(i), uint32(starts[i][next(len(starts[i]))]))
		case p.Operands == 2:
			code = append(code, 1)
		default:
			code = append(code, p.Number)
		}
	}
	mine = append(mine, len(code))
	code = append(code, 101)
	for _, at := range places {
		code[at] = uint32(mine[next(len(mine))])
	}
	return code, mine
}

// P11.2, P11.3, P11.4: lists that look random, with all primitives: right ones, and what becomes of them if one cell is no start any more, no word ahead, no primitive.
func TestSomeLists(t *testing.T) {
	for seed := range uint32(400) {
		next := numbers(seed)
		var l []api.Word
		var starts [][]int
		for range 1 + next(8) {
			code, mine := someCode(next, starts)
			wantWhole(t, code, mine...)
			l, starts = append(l, word(code...)), append(starts, mine)
		}
		wantCheck(t, "a list", l, -1)
		wantCheck(t, "a beginning", l[:next(len(l))], -1)
		i := next(len(l))
		at := starts[i][next(len(starts[i]))]
		code := slices.Clone(l[i].Code)
		switch l[i].Code[at] {
		case 103, 104, 106, 107, 108, 138:
			code[at+1] = uint32(len(code) + next(3))
		case 139:
			code[at+next(2)+1] += 1000
		default:
			code[at] = uint32(256 + i + 1)
		}
		l[i].Code = code
		wantCheck(t, "a list with a wrong cell", l, i)
	}
}
