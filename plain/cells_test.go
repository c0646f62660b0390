package plain_test

import (
	"slices"
	"testing"

	"lightship/api"
)

// P12.1: cells that are moved, left out, and given twice.
func TestMoved(t *testing.T) {
	for _, c := range [][3]string{
		{"DUP", "1", "1 1"}, {"DROP", "1", ""}, {"SWAP", "1 2", "2 1"}, {"OVER", "1 2", "1 2 1"}, {"ROT", "1 2 3", "2 3 1"},
		{"?DUP", "1", "1 1"}, {"?DUP", "0", "0"}, {"?DUP", "-1", "-1 -1"}, {"?DUP", "0x80000000", "0x80000000 0x80000000"}, {"?DUP", "256", "256 256"},
		{"NIP", "1 2", "2"}, {"TUCK", "1 2", "2 1 2"}, {"2DUP", "1 2", "1 2 1 2"}, {"2DROP", "1 2", ""},
		{"2SWAP", "1 2 3 4", "3 4 1 2"}, {"2OVER", "1 2 3 4", "1 2 3 4 1 2"},
		{"DEPTH", "", "0"}, {"DEPTH", "5", "5 1"}, {"DEPTH", "5 5 5 5 5 5 5 5 5", "5 5 5 5 5 5 5 5 5 9"},
	} {
		wantEffect(t, c[0], c[1], c[2])
	}
}

// P12.1: PICK and ROLL of each cell that is below their number, and of none beyond.
func TestPickAndRoll(t *testing.T) {
	wantEffect(t, "PICK", "1 2 3 0", "1 2 3 3")
	wantEffect(t, "PICK", "1 2 3 1", "1 2 3 2")
	wantEffect(t, "PICK", "1 2 3 2", "1 2 3 1")
	wantEffect(t, "ROLL", "1 2 3 4 0", "1 2 3 4")
	wantEffect(t, "ROLL", "1 2 3 4 1", "1 2 4 3")
	wantEffect(t, "ROLL", "1 2 3 4 2", "1 3 4 2")
	wantEffect(t, "ROLL", "1 2 3 4 3", "2 3 4 1")
	for _, name := range []string{"PICK", "ROLL"} {
		for _, u := range []string{"3", "4", "-1", "-2", "0x80000000", "0x7fffffff"} {
			wantThrow(t, name, "1 2 3 "+u, under)
		}
		for _, alone := range []string{"0", "1", "-1", ""} {
			wantThrow(t, name, alone, under)
		}
	}
}

// P12.1: PICK and ROLL at each depth, held against a list.
func TestPickAndRollAtEachDepth(t *testing.T) {
	all := []uint32{21, 22, 23, 24, 25, 26, 27, 28}
	for n := range len(all) + 1 {
		for u := range uint32(len(all) + 3) {
			in := append(slices.Clone(all[:n]), u)
			pick, roll := made(t, room{n + 1, 1}, in, nil), made(t, room{n + 1, 1}, in, nil)
			if int(u) >= n {
				want(t, "PICK", pick.do("PICK"), under)
				want(t, "ROLL", roll.do("ROLL"), under)
				pick.wantState(t, "PICK", in, nil)
				roll.wantState(t, "ROLL", in, nil)
				continue
			}
			at := n - 1 - int(u)
			want(t, "PICK", pick.do("PICK"), api.ThrowNone)
			want(t, "ROLL", roll.do("ROLL"), api.ThrowNone)
			pick.wantState(t, "PICK", append(slices.Clone(all[:n]), all[at]), nil)
			roll.wantState(t, "ROLL", append(slices.Delete(slices.Clone(all[:n]), at, at+1), all[at]), nil)
		}
	}
}

// P12.1: sums, with the least and the greatest numbers.
func TestSums(t *testing.T) {
	for _, c := range [][3]string{
		{"+", "2 3", "5"}, {"+", "-1 1", "0"}, {"+", "0x7fffffff 1", "0x80000000"}, {"+", "0x80000000 0x80000000", "0"}, {"+", "-1 -1", "-2"},
		{"-", "2 3", "-1"}, {"-", "3 2", "1"}, {"-", "0x80000000 1", "0x7fffffff"}, {"-", "0 0x80000000", "0x80000000"}, {"-", "0 1", "0xffffffff"},
		{"*", "6 7", "42"}, {"*", "-6 7", "-42"}, {"*", "-1 -1", "1"}, {"*", "65536 65536", "0"}, {"*", "0x80000000 2", "0"}, {"*", "0x80000000 -1", "0x80000000"}, {"*", "0x12345678 0x9abcdef0", "0x242d2080"},
		{"1+", "5", "6"}, {"1+", "-1", "0"}, {"1+", "0x7fffffff", "0x80000000"}, {"1-", "5", "4"}, {"1-", "0", "-1"}, {"1-", "0x80000000", "0x7fffffff"},
		{"NEGATE", "5", "-5"}, {"NEGATE", "-5", "5"}, {"NEGATE", "0", "0"}, {"NEGATE", "0x80000000", "0x80000000"}, {"NEGATE", "0x7fffffff", "0x80000001"},
		{"ABS", "5", "5"}, {"ABS", "-5", "5"}, {"ABS", "0", "0"}, {"ABS", "0x80000000", "0x80000000"}, {"ABS", "0x80000001", "0x7fffffff"}, {"ABS", "0x7fffffff", "0x7fffffff"},
		{"MIN", "2 3", "2"}, {"MIN", "3 2", "2"}, {"MIN", "-2 1", "-2"}, {"MIN", "1 -2", "-2"}, {"MIN", "0x80000000 0x7fffffff", "0x80000000"}, {"MIN", "4 4", "4"},
		{"MAX", "2 3", "3"}, {"MAX", "3 2", "3"}, {"MAX", "-2 1", "1"}, {"MAX", "1 -2", "1"}, {"MAX", "0x80000000 0x7fffffff", "0x7fffffff"}, {"MAX", "-1 -2", "-1"},
		{"2*", "5", "10"}, {"2*", "-5", "-10"}, {"2*", "0x80000000", "0"}, {"2*", "0x40000000", "0x80000000"}, {"2*", "-1", "-2"},
		{"2/", "5", "2"}, {"2/", "4", "2"}, {"2/", "-5", "-3"}, {"2/", "-4", "-2"}, {"2/", "-1", "-1"}, {"2/", "1", "0"}, {"2/", "0x80000000", "0xc0000000"}, {"2/", "0x7fffffff", "0x3fffffff"},
	} {
		wantEffect(t, c[0], c[1], c[2])
	}
}

// P12.1: bits.
func TestBits(t *testing.T) {
	for _, c := range [][3]string{
		{"AND", "0b1100 0b1010", "0b1000"}, {"OR", "0b1100 0b1010", "0b1110"}, {"XOR", "0b1100 0b1010", "0b0110"},
		{"AND", "-1 0x80000001", "0x80000001"}, {"OR", "0 0x80000001", "0x80000001"}, {"XOR", "-1 0x80000001", "0x7ffffffe"},
		{"INVERT", "0", "-1"}, {"INVERT", "-1", "0"}, {"INVERT", "0x0f0f0f0f", "0xf0f0f0f0"},
		{"LSHIFT", "1 0", "1"}, {"LSHIFT", "1 4", "16"}, {"LSHIFT", "1 31", "0x80000000"}, {"LSHIFT", "-1 32", "0"}, {"LSHIFT", "-1 33", "0"}, {"LSHIFT", "-1 -1", "0"}, {"LSHIFT", "-1 256", "0"}, {"LSHIFT", "-1 0x80000000", "0"}, {"LSHIFT", "3 31", "0x80000000"},
		{"RSHIFT", "16 4", "1"}, {"RSHIFT", "-1 0", "-1"}, {"RSHIFT", "-1 1", "0x7fffffff"}, {"RSHIFT", "0x80000000 31", "1"}, {"RSHIFT", "-1 32", "0"}, {"RSHIFT", "-1 64", "0"}, {"RSHIFT", "-1 -1", "0"}, {"RSHIFT", "-1 0x80000000", "0"},
	} {
		wantEffect(t, c[0], c[1], c[2])
	}
}

// P12.1: flags, of signed and unsigned numbers.
func TestFlags(t *testing.T) {
	for _, c := range [][3]string{
		{"=", "5 5", "true"}, {"=", "5 6", "false"}, {"=", "-1 0xffffffff", "true"}, {"=", "0 0x80000000", "false"},
		{"<>", "5 5", "false"}, {"<>", "5 6", "true"}, {"<>", "0 0x80000000", "true"},
		{"<", "1 2", "true"}, {"<", "2 1", "false"}, {"<", "2 2", "false"}, {"<", "-1 1", "true"}, {"<", "1 -1", "false"}, {"<", "0x80000000 0x7fffffff", "true"}, {"<", "0x7fffffff 0x80000000", "false"},
		{">", "1 2", "false"}, {">", "2 1", "true"}, {">", "2 2", "false"}, {">", "-1 1", "false"}, {">", "1 -1", "true"}, {">", "0x80000000 0x7fffffff", "false"}, {">", "0x7fffffff 0x80000000", "true"},
		{"U<", "1 2", "true"}, {"U<", "2 1", "false"}, {"U<", "2 2", "false"}, {"U<", "-1 1", "false"}, {"U<", "1 -1", "true"}, {"U<", "0x7fffffff 0x80000000", "true"},
		{"U>", "1 2", "false"}, {"U>", "2 1", "true"}, {"U>", "2 2", "false"}, {"U>", "-1 1", "true"}, {"U>", "1 -1", "false"}, {"U>", "0x7fffffff 0x80000000", "false"},
		{"0=", "0", "true"}, {"0=", "1", "false"}, {"0=", "-1", "false"}, {"0=", "0x80000000", "false"}, {"0=", "256", "false"},
		{"0<", "0", "false"}, {"0<", "1", "false"}, {"0<", "-1", "true"}, {"0<", "0x80000000", "true"}, {"0<", "0x7fffffff", "false"},
		{"0>", "0", "false"}, {"0>", "1", "true"}, {"0>", "-1", "false"}, {"0>", "0x80000000", "false"}, {"0>", "0x7fffffff", "true"},
	} {
		wantEffect(t, c[0], c[1], c[2])
	}
}

// P12.1: WITHIN of both ends and their neighbours, with lo above hi, with both alike, and with signed numbers.
func TestWithin(t *testing.T) {
	for _, c := range [][2]string{
		{"0 1 5", "false"}, {"1 1 5", "true"}, {"4 1 5", "true"}, {"5 1 5", "false"}, {"6 1 5", "false"}, {"-1 1 5", "false"},
		{"0 5 1", "true"}, {"1 5 1", "false"}, {"4 5 1", "false"}, {"5 5 1", "true"}, {"6 5 1", "true"}, {"-1 5 1", "true"}, {"0x80000000 5 1", "true"},
		{"5 5 5", "false"}, {"4 5 5", "false"}, {"6 5 5", "false"}, {"0 0 0", "false"}, {"-1 0 0", "false"}, {"0x80000000 0x80000000 0x80000000", "false"},
		{"-2 -2 2", "true"}, {"-1 -2 2", "true"}, {"0 -2 2", "true"}, {"1 -2 2", "true"}, {"2 -2 2", "false"}, {"-3 -2 2", "false"},
		{"0 0 -1", "true"}, {"-2 0 -1", "true"}, {"-1 0 -1", "false"}, {"-1 -1 0", "true"}, {"0 -1 0", "false"},
		{"0x7fffffff 0x80000000 0x7fffffff", "false"}, {"0x80000000 0x80000000 0x7fffffff", "true"}, {"0 0x80000000 0x7fffffff", "true"},
	} {
		wantEffect(t, "WITHIN", c[0], c[1])
	}
}

// P12.1: addresses that are computed, also beyond the greatest one.
func TestAddresses(t *testing.T) {
	for _, c := range [][3]string{
		{"CELL+", "8", "12"}, {"CELL+", "7", "11"}, {"CELL+", "-4", "0"}, {"CELL+", "-1", "3"},
		{"CELLS", "3", "12"}, {"CELLS", "0", "0"}, {"CELLS", "-1", "-4"}, {"CELLS", "0x40000000", "0"}, {"CELLS", "0x40000001", "4"},
		{"CHAR+", "8", "9"}, {"CHAR+", "-1", "0"}, {"CHARS", "3", "3"}, {"CHARS", "-1", "-1"}, {"CHARS", "0", "0"},
		{"ALIGNED", "0", "0"}, {"ALIGNED", "1", "4"}, {"ALIGNED", "2", "4"}, {"ALIGNED", "3", "4"}, {"ALIGNED", "4", "4"}, {"ALIGNED", "5", "8"},
		{"ALIGNED", "-4", "-4"}, {"ALIGNED", "-3", "0"}, {"ALIGNED", "-1", "0"}, {"ALIGNED", "0x80000001", "0x80000004"}, {"ALIGNED", "0x7fffffff", "0x80000000"},
	} {
		wantEffect(t, c[0], c[1], c[2])
	}
}
