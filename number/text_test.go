package number_test

import (
	"math/big"
	"slices"
	"strconv"
	"strings"
	"testing"

	"lightship/number"
)

// P13.2: double numbers at the edges, in all bases, and in some that are none.
func TestStep(t *testing.T) {
	for _, base := range someBases() {
		for _, d := range someDoubles() {
			wanted := step{}
			if isBase(base) {
				n := uint64(d[1])<<32 | uint64(d[0])
				q, digit := n/uint64(base), strings.ToUpper(strconv.FormatUint(n%uint64(base), 36))
				wanted = step{uint32(q), uint32(q >> 32), digit[0], true}
			}
			want(t, "Step", stepping(number.Step(d[0], d[1], base)), wanted)
		}
	}
}

// P13.2: it is unsigned; the remainder of the high cell is not lost; a base that is none.
func TestStepEdges(t *testing.T) {
	for _, k := range []struct {
		low, high, base uint32
		want            step
	}{
		{0, 0, 2, step{0, 0, '0', true}},
		{9, 0, 10, step{0, 0, '9', true}},
		{35, 0, 36, step{0, 0, 'Z', true}},
		{10, 0, 11, step{0, 0, 'A', true}},
		{0, 1, 2, step{1 << 31, 0, '0', true}},
		{0, 3, 2, step{1 << 31, 1, '0', true}},
		{greatest, greatest, 2, step{greatest, greatest >> 1, '1', true}},
		{greatest, greatest, 10, step{0x99999999, 0x19999999, '5', true}},
		{7, 7, 0, step{}},
		{7, 7, 1, step{}},
		{7, 7, 37, step{}},
		{7, 7, greatest, step{}},
	} {
		want(t, "Step", stepping(number.Step(k.low, k.high, k.base)), k.want)
	}
}

// textByTerms writes a number as the chapter's Terms tell it.
func textByTerms(low, high, base uint32, signed bool) text {
	if !isBase(base) {
		return text{}
	}
	n := new(big.Int).SetUint64(uint64(high)<<32 | uint64(low))
	if signed && high >= 1<<31 {
		n.Sub(n, new(big.Int).Lsh(big.NewInt(1), 64))
	}
	return text{strings.ToUpper(n.Text(int(base))), true}
}

// P13.2: double numbers at the edges, in all bases, and in some that are none.
func TestText(t *testing.T) {
	for _, base := range someBases() {
		for _, d := range someDoubles() {
			for _, signed := range []bool{false, true} {
				want(t, "Text", writing(number.Text(d[0], d[1], base, signed)), textByTerms(d[0], d[1], base, signed))
			}
		}
	}
}

// P13.2: the least and the greatest signed number; what is not signed has no minus; a base that is none.
func TestTextEdges(t *testing.T) {
	for _, k := range []struct {
		low, high, base uint32
		signed          bool
		want            text
	}{
		{0, 0, 2, false, text{"0", true}},
		{0, 0, 36, true, text{"0", true}},
		{greatest, 0, 10, true, text{"4294967295", true}},
		{0, 1, 10, true, text{"4294967296", true}},
		{0, 1, 16, true, text{"100000000", true}},
		{greatest, 1<<31 - 1, 10, true, text{"9223372036854775807", true}},
		{0, 1 << 31, 10, true, text{"-9223372036854775808", true}},
		{0, 1 << 31, 10, false, text{"9223372036854775808", true}},
		{1, 1 << 31, 10, true, text{"-9223372036854775807", true}},
		{0, greatest, 10, true, text{"-4294967296", true}},
		{0, 1 << 31, 2, true, text{"-1" + strings.Repeat("0", 63), true}},
		{greatest, greatest, 2, false, text{strings.Repeat("1", 64), true}},
		{greatest, greatest, 36, false, text{"3W5E11264SGSF", true}},
		{7, 0, 0, false, text{}},
		{7, 0, 1, false, text{}},
		{7, 0, 37, true, text{}},
		{greatest, greatest, greatest, true, text{}},
	} {
		want(t, "Text", writing(number.Text(k.low, k.high, k.base, k.signed)), k.want)
	}
}

// P13.3: what is written, signed or not, with a point behind it, is read as that double number; also in small letters.
func TestWrittenIsRead(t *testing.T) {
	for base := uint32(2); base <= 36; base++ {
		for _, d := range someDoubles() {
			for _, signed := range []bool{false, true} {
				s, _ := number.Text(d[0], d[1], base, signed)
				want(t, "Read of "+s, reading(number.Read(s+".", base)), double(d[0], d[1]))
				want(t, "Read of "+s+", small", reading(number.Read(strings.ToLower(s)+".", base)), double(d[0], d[1]))
			}
		}
	}
}

// P13.3: what Step returns, again and again, are the digits of Text, the last one first.
func TestStepsAreDigits(t *testing.T) {
	for base := uint32(2); base <= 36; base++ {
		for _, d := range someDoubles() {
			low, high := d[0], d[1]
			var digits []byte
			for len(digits) == 0 || low != 0 || high != 0 {
				next := stepping(number.Step(low, high, base))
				low, high = next.low, next.high
				digits = append(digits, next.digit)
			}
			slices.Reverse(digits)
			want(t, "Text", writing(number.Text(d[0], d[1], base, false)), text{string(digits), true})
		}
	}
}
