package tests

import (
	"testing"
	"unsafe"

	"loop.example/g00476/impl"
)

func wantExpText(t *testing.T, e impl.Exp, want string) {
	t.Helper()
	if got := impl.ExpText(e); got != want {
		t.Errorf("ExpText of %.300s is %q, not %q", expText(e), got, want)
	}
	wantReadAgain(t, e)
}

// wantReadAgain: what is told of a right one is read again as it is.
func wantReadAgain(t *testing.T, e impl.Exp) {
	t.Helper()
	wantParseExp(t, impl.ExpText(e), e)
}

func TestExpTextOfEachKind(t *testing.T) {
	x, one := varExp("x"), numExp(1)
	for _, c := range []struct {
		e    impl.Exp
		want string
	}{
		{numExp(0), "0"}, {numExp(7), "7"}, {numExp(10), "10"}, {numExp(999999), "999999"},
		{x, "x"}, {varExp("abcdef"), "abcdef"},
		{atExp("a", one), "a[1]"}, {atExp("a", atExp("b", x)), "a[b[x]]"}, {atExp("a", twoExp(impl.EAdd, x, one)), "a[x + 1]"},
		{twoExp(impl.EAdd, x, one), "x + 1"}, {twoExp(impl.ESub, x, one), "x - 1"}, {twoExp(impl.EMul, x, one), "x * 1"},
		{twoExp(impl.EMin, x, one), "min(x, 1)"}, {twoExp(impl.EMax, x, one), "max(x, 1)"},
		{twoExp(impl.EMin, twoExp(impl.EMax, one, x), twoExp(impl.EAdd, x, one)), "min(max(1, x), x + 1)"},
		{twoExp(impl.EMax, twoExp(impl.ESub, x, one), twoExp(impl.EMul, x, x)), "max(x - 1, x * x)"},
	} {
		wantExpText(t, c.e, c.want)
	}
}

// Each sign at the left and at the right of each: in brackets just where the document asks for them.
func TestExpTextBrackets(t *testing.T) {
	signs := map[int]string{impl.EAdd: " + ", impl.ESub: " - ", impl.EMul: " * "}
	a, b, c := varExp("a"), varExp("b"), varExp("c")
	in := func(s string, brackets bool) string {
		if brackets {
			return "(" + s + ")"
		}
		return s
	}
	for k, sign := range signs {
		for inner, innerSign := range signs {
			ab, bc := "a"+innerSign+"b", "b"+innerSign+"c"
			wantExpText(t, twoExp(k, twoExp(inner, a, b), c), in(ab, k == impl.EMul && inner != impl.EMul)+sign+"c")
			wantExpText(t, twoExp(k, a, twoExp(inner, b, c)), "a"+sign+in(bc, k == impl.EMul || inner != impl.EMul))
		}
		// What has brackets of its own needs no others.
		for _, part := range []impl.Exp{atExp("d", twoExp(impl.EAdd, a, b)), twoExp(impl.EMin, twoExp(impl.EAdd, a, b), c), twoExp(impl.EMax, c, twoExp(impl.ESub, a, b)), numExp(4)} {
			text := impl.ExpText(part)
			wantExpText(t, twoExp(k, part, c), text+sign+"c")
			wantExpText(t, twoExp(k, c, part), "c"+sign+text)
		}
	}
	for want, e := range map[string]impl.Exp{
		"a - b - c":           twoExp(impl.ESub, twoExp(impl.ESub, a, b), c),
		"a - (b - c)":         twoExp(impl.ESub, a, twoExp(impl.ESub, b, c)),
		"a + (b - c)":         twoExp(impl.EAdd, a, twoExp(impl.ESub, b, c)),
		"a - b * c":           twoExp(impl.ESub, a, twoExp(impl.EMul, b, c)),
		"a * b * c":           twoExp(impl.EMul, twoExp(impl.EMul, a, b), c),
		"a * (b * c)":         twoExp(impl.EMul, a, twoExp(impl.EMul, b, c)),
		"(a + b) * (b - c)":   twoExp(impl.EMul, twoExp(impl.EAdd, a, b), twoExp(impl.ESub, b, c)),
		"(a - (b - c)) * c":   twoExp(impl.EMul, twoExp(impl.ESub, a, twoExp(impl.ESub, b, c)), c),
		"a * (b * (c * 1))":   twoExp(impl.EMul, a, twoExp(impl.EMul, b, twoExp(impl.EMul, c, numExp(1)))),
		"a + b * c - (a + b)": twoExp(impl.ESub, twoExp(impl.EAdd, a, twoExp(impl.EMul, b, c)), twoExp(impl.EAdd, a, b)),
	} {
		wantExpText(t, e, want)
	}
}

// Of what is not right nothing is told, however small the fault within is.
func TestExpTextOfWrongOnes(t *testing.T) {
	for _, e := range append(expKinds(), twoExp(impl.EMul, atExp("a", varExp("x")), twoExp(impl.EMin, numExp(1), numExp(2)))) {
		for _, other := range otherExps(e) {
			if impl.ExpOk(other) {
				wantReadAgain(t, other)
			} else if got := impl.ExpText(other); got != "" {
				t.Errorf("ExpText of %.300s is %q", expText(other), got)
			}
		}
	}
	for _, e := range append(deepExps(9), impl.Exp{}, numExp(-1), numExp(1000000), varExp(""), varExp("for"), atExp("abcdefg", numExp(1)), expOfCount(61), deepExps(100000)[0]) {
		if got := impl.ExpText(e); got != "" {
			t.Errorf("ExpText of %.300s is %.100q", expText(e), got)
		}
	}
}

func TestExpTextIsReadAgain(t *testing.T) {
	for count := 1; count <= 60; count++ {
		wantReadAgain(t, expOfCount(count))
	}
	for depth := 1; depth <= 8; depth++ {
		for _, e := range deepExps(depth) {
			wantReadAgain(t, e)
		}
	}
	for _, left := range expKinds() {
		for _, right := range expKinds() {
			for k := impl.EAdd; k <= impl.EMax; k++ {
				for outer := impl.EAdd; outer <= impl.EMax; outer++ {
					wantReadAgain(t, twoExp(outer, twoExp(k, left, right), right))
					wantReadAgain(t, twoExp(outer, left, twoExp(k, left, right)))
					wantReadAgain(t, twoExp(outer, atExp("b", twoExp(k, left, right)), twoExp(k, right, left)))
				}
			}
		}
	}
	// The longest names and numbers at the most Exps are still read.
	long := atExp("abcdef", varExp("zzzzzz"))
	for range 4 {
		long = twoExp(impl.EMul, long, long)
	}
	wantReadAgain(t, twoExp(impl.ESub, numExp(999999), long))
}

func TestExpTextIsNew(t *testing.T) {
	for _, e := range append(expKinds(), varExp("abcdef"), atExp("abcdef", varExp("zzzzzz"))) {
		if text := impl.ExpText(e); e.S != "" && unsafe.StringData(text) == unsafe.StringData(e.S) {
			t.Errorf("ExpText of %s is a part of its argument", expText(e))
		}
	}
	room := []impl.Exp{varExp("x"), numExp(2), varExp("behind")}
	kept := expText(impl.Exp{L: room})
	if got := impl.ExpText(impl.Exp{K: impl.EAdd, L: room[:2]}); got != "x + 2" || expText(impl.Exp{L: room}) != kept {
		t.Errorf("ExpText is %q, and its argument %s", got, expText(impl.Exp{L: room}))
	}
}
