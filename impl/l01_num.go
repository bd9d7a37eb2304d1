package impl

import "strconv"

// round takes n round to what a narrower kind of number holds: a conversion
// drops the high bits, and what is left is read with the kind's own sign.
func round[W int8 | int16 | int32](n int) int {
	return int(W(n))
}

func Wrap(n int) int {
	return round[int32](n)
}

func AddW(a int, b int) int {
	return Wrap(Wrap(a) + Wrap(b))
}

func SubW(a int, b int) int {
	return Wrap(Wrap(a) - Wrap(b))
}

// Two words make at most 62 bits, so the product itself never goes round.
func MulW(a int, b int) int {
	return Wrap(Wrap(a) * Wrap(b))
}

// The answer is not Wrapped: of the least word and 0 it is one past the
// greatest word, and must not fall below 0.
func Gcd(a int, b int) int {
	x, y := Wrap(a), Wrap(b)
	for y != 0 {
		x, y = y, x%y
	}
	return max(x, -x)
}

func NumText(n int) string {
	return strconv.Itoa(n)
}

// Atoi reads more forms than one; only the text that NumText makes of the
// number is taken, so signs and needless noughts fall out by themselves.
func ParseNum(s string) (int, bool) {
	n, err := strconv.Atoi(s)
	if err != nil || n < 0 || n != Wrap(n) || s != NumText(n) {
		return 0, false
	}
	return n, true
}
