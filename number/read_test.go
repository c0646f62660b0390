package number_test

import (
	"math/big"
	"regexp"
	"strconv"
	"strings"
	"testing"

	"lightship/number"
)

// P13.1: each byte in each base.
func TestDigit(t *testing.T) {
	const capital = "0123456789ABCDEFGHIJKLMNOPQRSTUVWXYZ"
	for _, base := range someBases() {
		for c := range 256 {
			at := strings.Index(capital, strings.ToUpper(string(rune(c))))
			wanted := value{}
			if c < 128 && at >= 0 && isBase(base) && uint32(at) < base {
				wanted = value{uint32(at), true}
			}
			want(t, "Digit of "+string([]byte{byte(c)}), digit(number.Digit(byte(c), base)), wanted)
		}
	}
}

// P13.1: the digits' neighbours among the bytes, and the first and last digits of some bases.
func TestDigitEdges(t *testing.T) {
	for _, k := range []struct {
		c    byte
		base uint32
		want value
	}{
		{'0', 2, value{0, true}},
		{'1', 2, value{1, true}},
		{'2', 2, value{}},
		{'9', 10, value{9, true}},
		{'9', 9, value{}},
		{'A', 10, value{}},
		{'a', 10, value{}},
		{'A', 11, value{10, true}},
		{'a', 11, value{10, true}},
		{'Z', 36, value{35, true}},
		{'z', 36, value{35, true}},
		{'Z', 35, value{}},
		{'z', 35, value{}},
		{'0', 0, value{}},
		{'0', 1, value{}},
		{'0', 37, value{}},
		{'1', greatest, value{}},
		{'/', 36, value{}},
		{':', 36, value{}},
		{'@', 36, value{}},
		{'[', 36, value{}},
		{'`', 36, value{}},
		{'{', 36, value{}},
		{0, 36, value{}},
		{'0' + 128, 36, value{}},
		{255, 36, value{}},
	} {
		want(t, "Digit of "+string([]byte{k.c}), digit(number.Digit(k.c, k.base)), k.want)
	}
}

// P13.1: what is less than 2^32, and 2^64, also behind a minus and behind zeros; a base that is none; signs in their order.
func TestReadEdges(t *testing.T) {
	zeros := strings.Repeat("0", 1000)
	for _, k := range []struct {
		s    string
		base uint32
		want read
	}{
		{"4294967295", 10, single(greatest)},
		{"4294967296", 10, read{}},
		{"4294967297", 10, read{}},
		{"18446744073709551617", 10, read{}},
		{"-4294967295", 10, single(1)},
		{"-4294967296", 10, read{}},
		{"-2147483648", 10, single(1 << 31)},
		{"-0", 10, single(0)},
		{"-0.", 10, double(0, 0)},
		{"-7.", 10, double(greatest-6, greatest)},
		{"4294967296.", 10, double(0, 1)},
		{"-4294967296.", 10, double(0, greatest)},
		{"18446744073709551615.", 10, double(greatest, greatest)},
		{"-18446744073709551615.", 10, double(1, 0)},
		{"18446744073709551616.", 10, read{}},
		{"-18446744073709551616.", 10, read{}},
		{"100000000", 16, read{}},
		{"ffffffffffffffff.", 16, double(greatest, greatest)},
		{"10000000000000000.", 16, read{}},
		{"100000000000000000000000000000000.", 16, read{}},
		{"3w5e11264sgsf.", 36, double(greatest, greatest)},
		{"3w5e11264sgsg.", 36, read{}},
		{"1z141z3", 36, single(greatest)},
		{"1z141z4", 36, read{}},
		{"%" + strings.Repeat("1", 32), 10, single(greatest)},
		{"%1" + strings.Repeat("0", 32), 10, read{}},
		{"%" + strings.Repeat("1", 64) + ".", 10, double(greatest, greatest)},
		{"%1" + strings.Repeat("0", 64) + ".", 10, read{}},
		{zeros + "12", 10, single(12)},
		{"$-" + zeros + "c.", 10, double(greatest-11, greatest)},
		{strings.Repeat("9", 1000) + ".", 10, read{}},

		{"#10", 16, single(10)},
		{"$10", 10, single(16)},
		{"%10", 10, single(2)},
		{"#-10.", 2, double(greatest-9, greatest)},
		{"#a", 16, read{}},
		{"%2", 10, read{}},
		{"$g", 36, read{}},
		{"-#1", 10, read{}},
		{"-$1", 10, read{}},
		{"-%1", 10, read{}},
		{"##1", 10, read{}},
		{"#$1", 10, read{}},
		{"--1", 10, read{}},
		{"#--1", 10, read{}},
		{"#-", 10, read{}},
		{"#.", 10, read{}},
		{"-.", 10, read{}},
		{".", 10, read{}},
		{"#", 10, read{}},
		{"&1", 10, read{}},
		{"+1", 10, read{}},

		{"1..", 10, read{}},
		{".1", 10, read{}},
		{"1-", 10, read{}},
		{"1$", 10, read{}},
		{" 1", 10, read{}},
		{"1 ", 10, read{}},
		{"1_0", 10, read{}},
		{"0x1", 10, read{}},
		{"1\x00", 10, read{}},
		{"\xff", 36, read{}},
		{"1\xff", 36, read{}},
		{"é1", 10, read{}},
		{"-é", 10, read{}},
		{"$\u0131", 10, read{}},
		{"－1", 10, read{}},
		{"１", 10, read{}},

		{"1", 0, read{}},
		{"0", 1, read{}},
		{"1", 37, read{}},
		{"-1", 37, read{}},
		{"1.", greatest, read{}},
		{"#1", 0, single(1)},
		{"$-f", 1, single(greatest - 14)},
		{"%1.", 37, double(1, 0)},
		{"'1'", greatest, single(49)},
	} {
		want(t, "Read of "+k.s, reading(number.Read(k.s, k.base)), k.want)
	}
}

// P13.1: a letter is one byte from 32 to 126 between two quotes, in whatever base.
func TestReadLetters(t *testing.T) {
	for _, base := range someBases() {
		for c := range uint32(256) {
			wanted := read{}
			if 32 <= c && c <= 126 {
				wanted = single(c)
			}
			s := "'" + string([]byte{byte(c)}) + "'"
			want(t, "Read of "+s, reading(number.Read(s, base)), wanted)
		}
	}
	for _, s := range []string{"'", "''", "'A", "A'", "'AB'", "'A' ", " 'A'", "''''", "'A'.", "-'A'", "$'A'", "\"A\"", "`A`", "'A\"", "\"A'", "'é'", "1A'", "'A1"} {
		want(t, "Read of "+s, reading(number.Read(s, 36)), read{})
	}
}

// readByTerms reads a number as the chapter's Terms tell it.
func readByTerms(s string, base uint32) read {
	if letter := regexp.MustCompile(`^'[ -~]'$`); letter.MatchString(s) {
		return single(uint32(s[1]))
	}
	parts := numeral.FindStringSubmatch(s)
	if parts == nil {
		return read{}
	}
	switch parts[1] {
	case "#":
		base = 10
	case "$":
		base = 16
	case "%":
		base = 2
	}
	n, ok := valueByTerms(parts[3], base)
	long := parts[4] == "."
	bits := 32
	if long {
		bits = 64
	}
	if !ok || n.BitLen() > bits {
		return read{}
	}
	x := n.Uint64()
	if parts[2] == "-" {
		x = -x
	}
	if long {
		return double(uint32(x), uint32(x>>32))
	}
	return single(uint32(x))
}

var numeral = regexp.MustCompile(`^([#$%]?)(-?)([0-9A-Za-z]+)(\.?)$`)

func valueByTerms(digits string, base uint32) (*big.Int, bool) {
	if !isBase(base) {
		return nil, false
	}
	return new(big.Int).SetString(strings.ToLower(digits), int(base))
}

// P13.1: all short texts of some letters, in some bases.
func TestReadAllShort(t *testing.T) {
	const letters = "#$%-01aZ.' \xe9"
	var all func(s string, left int)
	all = func(s string, left int) {
		for _, base := range []uint32{0, 2, 10, 16, 36, 37} {
			want(t, "Read of "+s, reading(number.Read(s, base)), readByTerms(s, base))
		}
		for i := 0; i < len(letters) && left > 0; i++ {
			all(s+letters[i:i+1], left-1)
		}
	}
	all("", 4)
}

// P13.1: long texts that look random, of which most are numbers, some too large.
func TestReadMany(t *testing.T) {
	next := numbers(77)
	pick := func(l ...string) string { return l[next()%uint32(len(l))] }
	seen := map[bool]int{}
	for range 20000 {
		base := 2 + next()%35
		s := pick("", "", "", "#", "$", "%") + pick("", "-")
		for range 1 + next()%20 {
			digit := strconv.FormatUint(uint64(next()%base), 36)
			s += pick(digit, strings.ToUpper(digit))
		}
		s += pick("", ".", ".")
		wanted := readByTerms(s, base)
		seen[wanted.ok]++
		want(t, "Read of "+s, reading(number.Read(s, base)), wanted)
	}
	if seen[true] < 2000 || seen[false] < 2000 {
		t.Error("too few of a kind:", seen)
	}
}
