package tests

import (
	"math"
	"math/big"
	"strings"
	"testing"

	"loop.example/g00476/impl"
)

const (
	leastWord    = -2147483648
	greatestWord = 2147483647
	wordCount    = 4294967296
)

// numSamples: ordinary numbers, numbers around each end, and some from all over int.
func numSamples() []int {
	l := []int{0, 1, -1, 2, -2, 3, -3, 6, 7, 12, -12, 18, 100, -100, 999999, 46341, 65535, 65536, -65536, 715827882}
	for _, end := range []int{leastWord, greatestWord, wordCount, -wordCount, 3 * wordCount, 1 << 33, 1 << 62, -(1 << 62)} {
		l = append(l, end-2, end-1, end, end+1, end+2)
	}
	l = append(l, math.MinInt, math.MinInt+1, math.MinInt-leastWord, math.MaxInt, math.MaxInt-1, math.MaxInt-greatestWord)
	seed := uint64(1)
	for range 60 {
		seed = seed*6364136223846793005 + 1442695040888963407
		l = append(l, int(seed), int(seed)>>31, int(seed)>>48)
	}
	return l
}

func isWord(n int) bool { return n >= leastWord && n <= greatestWord }

// wrapped works Wrapped out by division without bounds, in no way like the program.
func wrapped(n *big.Int) int {
	m := new(big.Int).Mod(n, big.NewInt(wordCount)).Int64()
	if m > greatestWord {
		m -= wordCount
	}
	return int(m)
}

func bigOf(n int) *big.Int { return big.NewInt(int64(n)) }

func TestWrapAtTheEnds(t *testing.T) {
	for _, c := range []struct{ n, want int }{
		{0, 0}, {1, 1}, {-1, -1}, {999999, 999999},
		{greatestWord, greatestWord}, {greatestWord + 1, leastWord}, {greatestWord + 2, leastWord + 1},
		{leastWord, leastWord}, {leastWord - 1, greatestWord}, {leastWord - 2, greatestWord - 1},
		{wordCount, 0}, {wordCount - 1, -1}, {wordCount + 1, 1}, {-wordCount, 0}, {-wordCount - 1, -1},
		{math.MaxInt, -1}, {math.MinInt, 0}, {math.MinInt + 1, 1}, {math.MaxInt - 1, -2},
	} {
		if got := impl.Wrap(c.n); got != c.want {
			t.Errorf("Wrap(%d) is %d, not %d", c.n, got, c.want)
		}
	}
}

func TestWrapOfAll(t *testing.T) {
	for _, n := range numSamples() {
		got := impl.Wrap(n)
		if want := wrapped(bigOf(n)); got != want {
			t.Errorf("Wrap(%d) is %d, not %d", n, got, want)
		}
		if again := impl.Wrap(got); again != got {
			t.Errorf("Wrap(%d) is %d, and Wrapped again %d", n, got, again)
		}
	}
}

func TestSumsAtTheEnds(t *testing.T) {
	for _, c := range []struct {
		name string
		op   func(a int, b int) int
		a, b int
		want int
	}{
		{"AddW", impl.AddW, 2, 3, 5},
		{"AddW", impl.AddW, greatestWord, 1, leastWord},
		{"AddW", impl.AddW, leastWord, -1, greatestWord},
		{"AddW", impl.AddW, leastWord, leastWord, 0},
		{"AddW", impl.AddW, greatestWord, greatestWord, -2},
		{"AddW", impl.AddW, math.MaxInt, 1, 0},
		{"AddW", impl.AddW, math.MinInt, math.MinInt, 0},
		{"SubW", impl.SubW, 2, 3, -1},
		{"SubW", impl.SubW, leastWord, 1, greatestWord},
		{"SubW", impl.SubW, greatestWord, -1, leastWord},
		{"SubW", impl.SubW, 0, leastWord, leastWord},
		{"SubW", impl.SubW, math.MinInt, 1, -1},
		{"SubW", impl.SubW, 0, math.MinInt, 0},
		{"MulW", impl.MulW, -3, 7, -21},
		{"MulW", impl.MulW, leastWord, -1, leastWord},
		{"MulW", impl.MulW, leastWord, leastWord, 0},
		{"MulW", impl.MulW, greatestWord, greatestWord, 1},
		{"MulW", impl.MulW, greatestWord, leastWord, leastWord},
		{"MulW", impl.MulW, math.MaxInt, math.MaxInt, 1},
		{"MulW", impl.MulW, 46341, 46341, -2147479015},
	} {
		if got := c.op(c.a, c.b); got != c.want {
			t.Errorf("%s(%d, %d) is %d, not %d", c.name, c.a, c.b, got, c.want)
		}
	}
}

// Promise 1: sums of Wrapped ones are Wrapped.
func TestSumsAreWrapped(t *testing.T) {
	ops := []struct {
		name string
		got  func(a int, b int) int
		want func(z, x, y *big.Int) *big.Int
	}{
		{"AddW", impl.AddW, (*big.Int).Add},
		{"SubW", impl.SubW, (*big.Int).Sub},
		{"MulW", impl.MulW, (*big.Int).Mul},
	}
	samples := numSamples()
	for _, op := range ops {
		for _, a := range samples {
			for _, b := range samples {
				got := op.got(a, b)
				if want := wrapped(op.want(new(big.Int), bigOf(a), bigOf(b))); got != want || !isWord(got) {
					t.Errorf("%s(%d, %d) is %d, not %d", op.name, a, b, got, want)
				}
				if of := op.got(impl.Wrap(a), impl.Wrap(b)); got != of {
					t.Errorf("%s(%d, %d) is %d, of both Wrapped %d", op.name, a, b, got, of)
				}
			}
		}
	}
}

func TestGcdAtTheEnds(t *testing.T) {
	for _, c := range []struct{ a, b, want int }{
		{12, 18, 6}, {18, 12, 6}, {7, 13, 1}, {0, 0, 0}, {0, 5, 5}, {5, 0, 5}, {0, -5, 5}, {-5, 0, 5},
		{-4, 6, 2}, {4, -6, 2}, {-4, -6, 2}, {1, leastWord, 1}, {6, 6, 6},
		{leastWord, 0, 2147483648}, {0, leastWord, 2147483648}, {leastWord, leastWord, 2147483648},
		{leastWord, -1, 1}, {leastWord, 6, 2}, {leastWord, greatestWord, 1}, {greatestWord, greatestWord, greatestWord},
		{greatestWord + 1, 0, 2147483648}, {leastWord - 1, 0, greatestWord},
		{wordCount, 3, 3}, {wordCount, wordCount, 0}, {math.MinInt, 0, 0}, {math.MaxInt, 0, 1}, {math.MinInt, math.MinInt, 0},
	} {
		if got := impl.Gcd(c.a, c.b); got != c.want {
			t.Errorf("Gcd(%d, %d) is %d, not %d", c.a, c.b, got, c.want)
		}
	}
}

func TestGcdOfAll(t *testing.T) {
	samples := numSamples()
	for _, a := range samples {
		for _, b := range samples {
			x, y := bigOf(wrapped(bigOf(a))), bigOf(wrapped(bigOf(b)))
			want := int(new(big.Int).GCD(nil, nil, x.Abs(x), y.Abs(y)).Int64())
			if got := impl.Gcd(a, b); got != want || got < 0 {
				t.Errorf("Gcd(%d, %d) is %d, not %d", a, b, got, want)
			}
		}
	}
}

func TestNumText(t *testing.T) {
	for n, want := range map[int]string{
		0: "0", 7: "7", 10: "10", -1: "-1", -70: "-70", 1000000: "1000000",
		leastWord: "-2147483648", greatestWord: "2147483647", leastWord - 1: "-2147483649", greatestWord + 1: "2147483648",
		math.MaxInt: "9223372036854775807", math.MinInt: "-9223372036854775808",
	} {
		if got := impl.NumText(n); got != want {
			t.Errorf("NumText(%d) is %q, not %q", n, got, want)
		}
	}
	for _, n := range numSamples() {
		if got := impl.NumText(n); got != bigOf(n).String() {
			t.Errorf("NumText(%d) is %q", n, got)
		}
	}
}

// What NumText tells comes back just if it is a word and not below 0.
func TestParseNumComesBack(t *testing.T) {
	for _, n := range numSamples() {
		text := impl.NumText(n)
		got, ok := impl.ParseNum(text)
		if want := n >= 0 && n <= greatestWord; ok != want || ok && got != n || !ok && got != 0 {
			t.Errorf("ParseNum(%q) is %d, %v", text, got, ok)
		}
	}
	for n := range 2000 {
		if got, ok := impl.ParseNum(impl.NumText(n)); !ok || got != n {
			t.Errorf("ParseNum of %d is %d, %v", n, got, ok)
		}
	}
}

func TestParseNumWrongTexts(t *testing.T) {
	for _, s := range []string{
		"", " ", "00", "01", "007", "0000000000", "02147483647", "-", "-0", "-1", "-2147483648", "--1", "+", "+0", "+1",
		"x", "1x", "x1", "1 ", " 1", "1 2", "1\n", "\t1", "1.0", "1e3", "1_000", "0x10", "0b1", "0o7", "1,000",
		"\x00", "1\x00", "\xff", "1\xff", "١", "１", "²", "/", ":",
		"2147483648", "2147483649", "4294967295", "4294967296", "4294967297", "9999999999", "10000000000", "21474836470",
		"9223372036854775807", "9223372036854775808", "18446744073709551616", "18446744073709551617",
		strings.Repeat("1", 30), strings.Repeat("9", 5000), strings.Repeat("0", 5000), "1" + strings.Repeat("0", 64), strings.Repeat("0", 40) + "1",
	} {
		if n, ok := impl.ParseNum(s); ok || n != 0 {
			t.Errorf("ParseNum(%.40q) is %d, %v, not 0, false", s, n, ok)
		}
	}
}
