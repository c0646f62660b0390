package plain_test

import (
	"fmt"
	"testing"

	"lightship/api"
)

// P12.1: quotients of both signs, rounded down; the remainder has the sign of the divisor.
func TestQuotients(t *testing.T) {
	for _, c := range [][3]string{
		{"/MOD", "7 2", "1 3"}, {"/MOD", "-7 2", "1 -4"}, {"/MOD", "7 -2", "-1 -4"}, {"/MOD", "-7 -2", "-1 3"},
		{"/MOD", "6 -2", "0 -3"}, {"/MOD", "-6 2", "0 -3"}, {"/MOD", "0 5", "0 0"}, {"/MOD", "0 -5", "0 0"}, {"/MOD", "1 -5", "-4 -1"}, {"/MOD", "-1 5", "4 -1"},
		{"/MOD", "0x80000000 1", "0 0x80000000"}, {"/MOD", "0x80000000 2", "0 0xc0000000"}, {"/MOD", "0x7fffffff -1", "0 0x80000001"}, {"/MOD", "0x80000000 0x80000000", "0 1"}, {"/MOD", "0x7fffffff 0x80000000", "-1 -1"}, {"/MOD", "0x80000000 0x7fffffff", "0x7ffffffe -2"},
		{"/", "7 2", "3"}, {"/", "-7 2", "-4"}, {"/", "7 -2", "-4"}, {"/", "-7 -2", "3"}, {"/", "0x80000000 1", "0x80000000"},
		{"MOD", "7 2", "1"}, {"MOD", "-7 2", "1"}, {"MOD", "7 -2", "-1"}, {"MOD", "-7 -2", "-1"}, {"MOD", "6 -2", "0"},
	} {
		wantEffect(t, c[0], c[1], c[2])
	}
	for _, name := range []string{"/", "MOD", "/MOD"} {
		for _, x := range []string{"0", "5", "-5", "0x80000000"} {
			wantThrow(t, name, x+" 0", api.ThrowDivide)
		}
		wantThrow(t, name, "0x80000000 -1", api.ThrowRange)
	}
}

// P12.1: a product of signed numbers, as a double cell, divided and rounded down.
func TestQuotientsOfProducts(t *testing.T) {
	for _, c := range [][3]string{
		{"*/", "6 7 5", "8"}, {"*/", "-6 7 5", "-9"}, {"*/", "6 -7 5", "-9"}, {"*/", "6 7 -5", "-9"}, {"*/", "-6 -7 5", "8"}, {"*/", "-6 -7 -5", "-9"},
		{"*/", "0x7fffffff 0x7fffffff 0x7fffffff", "0x7fffffff"}, {"*/", "0x80000000 0x80000000 0x80000000", "0x80000000"}, {"*/", "0x80000000 2 4", "0xc0000000"}, {"*/", "0x80000000 -1 2", "0x40000000"}, {"*/", "0 5 7", "0"}, {"*/", "0x7fffffff 2 -2", "0x80000001"},
		{"*/MOD", "6 7 5", "2 8"}, {"*/MOD", "-6 7 5", "3 -9"}, {"*/MOD", "6 7 -5", "-3 -9"}, {"*/MOD", "-6 -7 -5", "-3 -9"}, {"*/MOD", "1000000 1000000 2000001", "1500001 499999"},
	} {
		wantEffect(t, c[0], c[1], c[2])
	}
	for _, name := range []string{"*/", "*/MOD"} {
		for _, xy := range []string{"0 0", "5 7", "-5 0", "0x80000000 0x80000000"} {
			wantThrow(t, name, xy+" 0", api.ThrowDivide)
		}
		for _, xyz := range []string{"0x80000000 1 -1", "0x80000000 -1 1", "0x7fffffff 2 1", "65536 32768 1", "0x80000000 0x80000000 0x7fffffff", "0x7fffffff 0x7fffffff 1", "0x7fffffff -2 1", "0x7fffffff 3 -2"} {
			wantThrow(t, name, xyz, api.ThrowRange)
		}
		wantEffect(t, "*/", "65536 32768 2", "0x40000000")
		wantEffect(t, "*/", "65536 -32768 1", "0x80000000")
	}
}

// P12.1: double cells have their high cell on top.
func TestDoubleCells(t *testing.T) {
	for _, c := range [][3]string{
		{"UM*", "6 7", "42 0"}, {"UM*", "-1 -1", "1 -2"}, {"UM*", "65536 65536", "0 1"}, {"UM*", "0x80000000 6", "0 3"}, {"UM*", "-1 2", "-2 1"}, {"UM*", "0 -1", "0 0"},
		{"M*", "6 7", "42 0"}, {"M*", "-6 7", "-42 -1"}, {"M*", "-1 -1", "1 0"}, {"M*", "65536 65536", "0 1"}, {"M*", "0x80000000 0x80000000", "0 0x40000000"}, {"M*", "0x80000000 2", "0 -1"}, {"M*", "0 -1", "0 0"}, {"M*", "-1 2", "-2 -1"},
		{"S>D", "5", "5 0"}, {"S>D", "0", "0 0"}, {"S>D", "-5", "-5 -1"}, {"S>D", "0x80000000", "0x80000000 -1"}, {"S>D", "0x7fffffff", "0x7fffffff 0"},
		{"D+", "1 2 3 4", "4 6"}, {"D+", "-1 0 1 0", "0 1"}, {"D+", "-1 -1 1 0", "0 0"}, {"D+", "-1 -1 -1 -1", "-2 -1"}, {"D+", "0 0x80000000 0 0x80000000", "0 0"}, {"D+", "1 0 -1 0", "0 1"},
		{"DNEGATE", "5 0", "-5 -1"}, {"DNEGATE", "-5 -1", "5 0"}, {"DNEGATE", "0 0", "0 0"}, {"DNEGATE", "0 1", "0 -1"}, {"DNEGATE", "0 0x80000000", "0 0x80000000"}, {"DNEGATE", "1 0x80000000", "-1 0x7fffffff"},
	} {
		wantEffect(t, c[0], c[1], c[2])
	}
}

// P12.1: double cells divided: the remainder comes below the quotient.
func TestQuotientsOfDoubleCells(t *testing.T) {
	for _, c := range [][3]string{
		{"UM/MOD", "7 0 2", "1 3"}, {"UM/MOD", "5 3 4", "1 3221225473"}, {"UM/MOD", "-1 0 1", "0 -1"}, {"UM/MOD", "-1 -2 -1", "-2 -1"}, {"UM/MOD", "0 0 -1", "0 0"}, {"UM/MOD", "-1 1 2", "1 -1"},
		{"FM/MOD", "7 0 2", "1 3"}, {"FM/MOD", "-7 -1 2", "1 -4"}, {"FM/MOD", "7 0 -2", "-1 -4"}, {"FM/MOD", "-7 -1 -2", "-1 3"}, {"FM/MOD", "0 1 4", "0 0x40000000"}, {"FM/MOD", "0x80000000 0 -1", "0 0x80000000"}, {"FM/MOD", "-1 -1 0x7fffffff", "0x7ffffffe -1"},
		{"SM/REM", "7 0 2", "1 3"}, {"SM/REM", "-7 -1 2", "-1 -3"}, {"SM/REM", "7 0 -2", "1 -3"}, {"SM/REM", "-7 -1 -2", "-1 3"}, {"SM/REM", "0 1 4", "0 0x40000000"}, {"SM/REM", "0x80000000 0 -1", "0 0x80000000"}, {"SM/REM", "-1 -1 0x7fffffff", "-1 0"},
	} {
		wantEffect(t, c[0], c[1], c[2])
	}
	for _, name := range []string{"UM/MOD", "FM/MOD", "SM/REM"} {
		for _, d := range []string{"0 0", "5 0", "-5 -1", "0 0x80000000"} {
			wantThrow(t, name, d+" 0", api.ThrowDivide)
		}
		for _, d := range []string{"0 1 1", "0 2 2", "-1 0x7fffffff 1", "0 0x80000000 1"} {
			wantThrow(t, name, d, api.ThrowRange)
		}
	}
	for _, name := range []string{"FM/MOD", "SM/REM"} {
		for _, d := range []string{"0x80000001 0 -1", "0x80000000 -1 -1", "0 0x80000000 -1", "-1 0 1", "0x80000000 0 1", "0x7fffffff -1 1"} {
			wantThrow(t, name, d, api.ThrowRange)
		}
	}
	wantThrow(t, "FM/MOD", "-1 -2 2", api.ThrowRange)
	wantThrow(t, "FM/MOD", "-1 -1 0", api.ThrowDivide)
	wantThrow(t, "FM/MOD", "1 1 -2", api.ThrowRange)  // -2^31 and a half, rounded down
	wantEffect(t, "SM/REM", "1 1 -2", "1 0x80000000") // and rounded towards 0
}

// someCells are cells at the edges, unsigned and signed, addresses, and others.
func someCells() []uint32 {
	l := []uint32{0, 1, 2, 3, 7, 31, 32, 1<<16 - 1, 1 << 16, 1<<30 + 5, 1<<31 - 2, 1<<31 - 1, 1 << 31, 1<<31 + 1, win, ram}
	for _, x := range []uint32{1, 2, 3, 5, 7, 100} {
		l = append(l, -x)
	}
	next := numbers(12)
	for range 6 {
		l = append(l, next())
	}
	return l
}

// numbers returns a row of numbers that look random, and are the same each time.
func numbers(seed uint32) func() uint32 {
	return func() uint32 {
		seed ^= seed << 13
		seed ^= seed >> 17
		seed ^= seed << 5
		return seed
	}
}

// P12.2: for both signed divisions, and the unsigned one, the quotient times the divisor plus the remainder is the dividend: as the primitives themselves multiply and add.
func TestDivisionsGiveTheDividend(t *testing.T) {
	for _, c := range []struct{ divide, multiply, extend string }{{"FM/MOD", "M*", "S>D"}, {"SM/REM", "M*", "S>D"}, {"UM/MOD", "UM*", ""}} {
		done := 0
		for _, low := range someCells() {
			for _, high := range someCells() {
				for _, by := range someCells() {
					k := made(t, room{8, 8}, []uint32{low, high, by}, nil)
					if k.do(c.divide) != api.ThrowNone {
						continue
					}
					done++
					k.s.Push(by)
					throws := []api.Throw{k.do(c.multiply), k.do("ROT")}
					if c.extend != "" {
						throws = append(throws, k.do(c.extend))
					} else {
						k.s.Push(0)
					}
					throws = append(throws, k.do("D+"))
					for _, throw := range throws {
						want(t, c.divide, throw, api.ThrowNone)
					}
					k.wantState(t, fmt.Sprint(c.divide, " of ", low, high, " by ", by), []uint32{low, high}, nil)
				}
			}
		}
		if done < 1000 {
			t.Errorf("%s: no more than %d divisions did not throw", c.divide, done)
		}
	}
}
