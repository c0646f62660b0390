package prim

import (
	"cmp"
	"slices"

	"lightship/api"
)

// table is all primitives, in increasing order of numbers.
type table [113]api.Prim

func primitives() table {
	return table{
		{Number: 1, Name: "DUP", Takes: 1, Gives: 2}, {Number: 2, Name: "DROP", Takes: 1}, {Number: 3, Name: "SWAP", Takes: 2, Gives: 2},
		{Number: 4, Name: "OVER", Takes: 2, Gives: 3}, {Number: 5, Name: "ROT", Takes: 3, Gives: 3}, {Number: 6, Name: "?DUP", Takes: 1, Gives: 1},
		{Number: 7, Name: "NIP", Takes: 2, Gives: 1}, {Number: 8, Name: "TUCK", Takes: 2, Gives: 3}, {Number: 9, Name: "2DUP", Takes: 2, Gives: 4},
		{Number: 10, Name: "2DROP", Takes: 2}, {Number: 11, Name: "2SWAP", Takes: 4, Gives: 4}, {Number: 12, Name: "2OVER", Takes: 4, Gives: 6},
		{Number: 13, Name: "DEPTH", Gives: 1}, {Number: 14, Name: "PICK", Takes: 1, Gives: 1}, {Number: 15, Name: "ROLL", Takes: 1},
		{Number: 16, Name: "+", Takes: 2, Gives: 1}, {Number: 17, Name: "-", Takes: 2, Gives: 1}, {Number: 18, Name: "*", Takes: 2, Gives: 1},
		{Number: 19, Name: "/", Takes: 2, Gives: 1}, {Number: 20, Name: "MOD", Takes: 2, Gives: 1}, {Number: 21, Name: "/MOD", Takes: 2, Gives: 2},
		{Number: 22, Name: "*/", Takes: 3, Gives: 1}, {Number: 23, Name: "*/MOD", Takes: 3, Gives: 2}, {Number: 24, Name: "NEGATE", Takes: 1, Gives: 1},
		{Number: 25, Name: "ABS", Takes: 1, Gives: 1}, {Number: 26, Name: "MIN", Takes: 2, Gives: 1}, {Number: 27, Name: "MAX", Takes: 2, Gives: 1},
		{Number: 28, Name: "1+", Takes: 1, Gives: 1}, {Number: 29, Name: "1-", Takes: 1, Gives: 1}, {Number: 30, Name: "2*", Takes: 1, Gives: 1},
		{Number: 31, Name: "2/", Takes: 1, Gives: 1}, {Number: 32, Name: "UM*", Takes: 2, Gives: 2}, {Number: 33, Name: "M*", Takes: 2, Gives: 2},
		{Number: 34, Name: "UM/MOD", Takes: 3, Gives: 2}, {Number: 35, Name: "FM/MOD", Takes: 3, Gives: 2}, {Number: 36, Name: "SM/REM", Takes: 3, Gives: 2},
		{Number: 37, Name: "S>D", Takes: 1, Gives: 2}, {Number: 38, Name: "D+", Takes: 4, Gives: 2}, {Number: 39, Name: "DNEGATE", Takes: 2, Gives: 2},
		{Number: 40, Name: "AND", Takes: 2, Gives: 1}, {Number: 41, Name: "OR", Takes: 2, Gives: 1}, {Number: 42, Name: "XOR", Takes: 2, Gives: 1},
		{Number: 43, Name: "INVERT", Takes: 1, Gives: 1}, {Number: 44, Name: "LSHIFT", Takes: 2, Gives: 1}, {Number: 45, Name: "RSHIFT", Takes: 2, Gives: 1},
		{Number: 46, Name: "=", Takes: 2, Gives: 1}, {Number: 47, Name: "<>", Takes: 2, Gives: 1}, {Number: 48, Name: "<", Takes: 2, Gives: 1},
		{Number: 49, Name: ">", Takes: 2, Gives: 1}, {Number: 50, Name: "U<", Takes: 2, Gives: 1}, {Number: 51, Name: "U>", Takes: 2, Gives: 1},
		{Number: 52, Name: "0=", Takes: 1, Gives: 1}, {Number: 53, Name: "0<", Takes: 1, Gives: 1}, {Number: 54, Name: "0>", Takes: 1, Gives: 1},
		{Number: 55, Name: "WITHIN", Takes: 3, Gives: 1}, {Number: 56, Name: "@", Takes: 1, Gives: 1}, {Number: 57, Name: "!", Takes: 2},
		{Number: 58, Name: "C@", Takes: 1, Gives: 1}, {Number: 59, Name: "C!", Takes: 2}, {Number: 60, Name: "+!", Takes: 2},
		{Number: 61, Name: "2@", Takes: 1, Gives: 2}, {Number: 62, Name: "2!", Takes: 3}, {Number: 63, Name: "MOVE", Takes: 3},
		{Number: 64, Name: "FILL", Takes: 3}, {Number: 65, Name: "CELL+", Takes: 1, Gives: 1}, {Number: 66, Name: "CELLS", Takes: 1, Gives: 1},
		{Number: 67, Name: "CHAR+", Takes: 1, Gives: 1}, {Number: 68, Name: "CHARS", Takes: 1, Gives: 1}, {Number: 69, Name: "ALIGNED", Takes: 1, Gives: 1},
		{Number: 70, Name: "COUNT", Takes: 1, Gives: 2}, {Number: 71, Name: ">R", Takes: 1}, {Number: 72, Name: "R>", Gives: 1},
		{Number: 73, Name: "R@", Gives: 1},
		{Number: 101, Name: "EXIT"}, {Number: 102, Name: "(LIT)", Gives: 1, Operands: 1}, {Number: 103, Name: "(BRANCH)", Operands: 1, Jump: true},
		{Number: 104, Name: "(0BRANCH)", Takes: 1, Operands: 1, Jump: true}, {Number: 105, Name: "(DO)", Takes: 2}, {Number: 106, Name: "(?DO)", Takes: 2, Operands: 1, Jump: true},
		{Number: 107, Name: "(LOOP)", Operands: 1, Jump: true}, {Number: 108, Name: "(+LOOP)", Takes: 1, Operands: 1, Jump: true}, {Number: 109, Name: "I", Gives: 1},
		{Number: 110, Name: "J", Gives: 1}, {Number: 111, Name: "UNLOOP"}, {Number: 112, Name: "EXECUTE", Takes: 1},
		{Number: 113, Name: "CATCH", Takes: 1, Gives: 1}, {Number: 114, Name: "THROW", Takes: 1}, {Number: 115, Name: "(S\")", Gives: 2, Operands: 1, Text: true},
		{Number: 116, Name: "(.\")", Operands: 1, Text: true}, {Number: 117, Name: "EMIT", Takes: 1}, {Number: 118, Name: "TYPE", Takes: 2},
		{Number: 119, Name: "CR"}, {Number: 120, Name: "SPACE"}, {Number: 121, Name: "SPACES", Takes: 1},
		{Number: 122, Name: "HERE", Gives: 1}, {Number: 123, Name: "ALLOT", Takes: 1}, {Number: 124, Name: ",", Takes: 1},
		{Number: 125, Name: "C,", Takes: 1}, {Number: 126, Name: "ALIGN"}, {Number: 127, Name: "BASE", Gives: 1},
		{Number: 128, Name: "STATE", Gives: 1}, {Number: 129, Name: "<#"}, {Number: 130, Name: "#", Takes: 2, Gives: 2},
		{Number: 131, Name: "#S", Takes: 2, Gives: 2}, {Number: 132, Name: "#>", Takes: 2, Gives: 2}, {Number: 133, Name: "HOLD", Takes: 1},
		{Number: 134, Name: "SIGN", Takes: 1}, {Number: 135, Name: ".", Takes: 1}, {Number: 136, Name: "U.", Takes: 1},
		{Number: 137, Name: "ABORT"}, {Number: 138, Name: "(DOES)", Operands: 1, Jump: true}, {Number: 139, Name: "(GO)", Operands: 2},
		{Number: 140, Name: "CREATE"},
	}
}

// get returns the primitive with a number.
func (t *table) get(n uint32) (api.Prim, bool) {
	i, ok := slices.BinarySearchFunc(t[:], n, func(p api.Prim, n uint32) int { return cmp.Compare(p.Number, n) })
	if !ok {
		return api.Prim{}, false
	}
	return t[i], true
}
