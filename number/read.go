package number

import (
	"strings"

	"lightship/cell"
)

// Read returns the low cell of the number whose text s is in that base, its high one, and whether it is double; false if s is no text of a number.
func Read(s string, base uint32) (uint32, uint32, bool, bool) {
	if letter, ok := quoted(s); ok {
		return letter, 0, false, true
	}
	digits, base, minus := unsigned(s, base)
	digits, double := strings.CutSuffix(digits, ".")
	low, high, ok := valueIn(digits, base)
	if !ok || high != 0 && !double {
		return 0, 0, false, false
	}
	if minus {
		low, high = cell.Negative(low, high)
	}
	if !double {
		high = 0
	}
	return low, high, double, true
}

// quoted returns the byte of a letter between two quotes.
func quoted(s string) (uint32, bool) {
	if len(s) != 3 || s[0] != '\'' || s[2] != '\'' || s[1] < 32 || s[1] > 126 {
		return 0, false
	}
	return uint32(s[1]), true
}

// unsigned returns what stands behind the signs of a text, the base that they tell (else the one given), and whether there is a minus among them.
func unsigned(s string, base uint32) (rest string, of uint32, minus bool) {
	for at, sign := range s {
		switch {
		case at == 0 && sign == '#':
			base = 10
		case at == 0 && sign == '$':
			base = 16
		case at == 0 && sign == '%':
			base = 2
		case sign == '-' && !minus:
			minus = true
		default:
			return s[at:], base, minus
		}
	}
	return "", base, minus
}

// valueIn returns the value of one digit or more; false if one of them is none of the base, or if it takes more than two cells.
func valueIn(digits string, base uint32) (low, high uint32, ok bool) {
	for at := range len(digits) {
		digit, ok := Digit(digits[at], base)
		if !ok {
			return 0, 0, false
		}
		if low, high, ok = behind(low, high, base, digit); !ok {
			return 0, 0, false
		}
	}
	return low, high, digits != ""
}

// behind puts one more digit behind a value; false if it takes more than two cells then.
func behind(low, high, base, digit uint32) (uint32, uint32, bool) {
	low, carry := cell.Product(low, base)
	low, carry = cell.Sum(low, carry, digit, 0)
	high, over := cell.Product(high, base)
	high, over = cell.Sum(high, over, carry, 0)
	if over != 0 {
		return 0, 0, false
	}
	return low, high, true
}
