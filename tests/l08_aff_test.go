package tests

import (
	"fmt"
	"math"
	"slices"
	"strings"
	"testing"

	"loop.example/g00476/impl"
)

// affText is of two just then the same text when all their parts are the same; nil and empty are one.
func affText(a impl.Aff) string {
	var b strings.Builder
	fmt.Fprint(&b, a.C)
	for _, t := range a.T {
		fmt.Fprintf(&b, " %q*%d", t.Name, t.N)
	}
	return b.String()
}

func affOf(c int, terms ...impl.Term) impl.Aff { return impl.Aff{C: c, T: terms} }

func termOf(name string, n int) impl.Term { return impl.Term{Name: name, N: n} }

func copyAff(a impl.Aff) impl.Aff { return impl.Aff{C: a.C, T: slices.Clone(a.T)} }

func wantAffOk(t *testing.T, want bool, a impl.Aff) {
	t.Helper()
	if impl.AffOk(a) != want {
		t.Errorf("AffOk of %.300s is %v", affText(a), !want)
	}
}

// wantSum holds a straight sum and its true, or the zero one and false, against what is asked for.
func wantSum(t *testing.T, got impl.Aff, ok bool, want impl.Aff, is bool, what ...any) {
	t.Helper()
	if ok != is || affText(got) != affText(want) || ok && !impl.AffOk(got) {
		t.Errorf("%.400s is %.200s, %v, not %.200s, %v", fmt.Sprint(what...), affText(got), ok, affText(want), is)
	}
}

func wantAffOf(t *testing.T, e impl.Exp, names []string, want impl.Aff) {
	t.Helper()
	a, ok := impl.AffOf(e, names)
	wantSum(t, a, ok, want, true, "AffOf of ", toldExp(e), " of ", names)
}

func wantNoAffOf(t *testing.T, e impl.Exp, names []string) {
	t.Helper()
	a, ok := impl.AffOf(e, names)
	wantSum(t, a, ok, impl.Aff{}, false, "AffOf of ", expText(e), " of ", names)
}

func wantAdd(t *testing.T, a, b, want impl.Aff, is bool) {
	t.Helper()
	got, ok := impl.AddA(a, b)
	wantSum(t, got, ok, want, is, "AddA of ", affText(a), " and ", affText(b))
}

func wantSub(t *testing.T, a, b, want impl.Aff, is bool) {
	t.Helper()
	got, ok := impl.SubA(a, b)
	wantSum(t, got, ok, want, is, "SubA of ", affText(a), " and ", affText(b))
}

// byName has the numbers of a straight sum by their names, the number alone by none; what is 0 is left out.
type byName map[string]int

func byNameOf(a impl.Aff) byName {
	m := byName{"": a.C}
	for _, t := range a.T {
		m[t.Name] += t.N
	}
	return m.settled()
}

func (m byName) settled() byName {
	for name, n := range m {
		if n == 0 {
			delete(m, name)
		}
	}
	return m
}

func (m byName) plus(times int, other byName) byName {
	sum := byName{}
	for name, n := range m {
		sum[name] += n
	}
	for name, n := range other {
		sum[name] += times * n
	}
	return sum.settled()
}

func (m byName) within() bool {
	for _, n := range m {
		if n < -100000 || n > 100000 {
			return false
		}
	}
	return true
}

func (m byName) alone() bool { return len(m) == 0 || len(m) == 1 && m[""] != 0 }

func (m byName) aff() impl.Aff {
	a := impl.Aff{C: m[""]}
	for name, n := range m {
		if name != "" {
			a.T = append(a.T, termOf(name, n))
		}
	}
	slices.SortFunc(a.T, func(t, u impl.Term) int { return strings.Compare(t.Name, u.Name) })
	return a
}

// straightTold is a second way to what a right expression is as a straight sum.
func straightTold(e impl.Exp, names []string) (byName, bool) {
	var parts []byName
	for _, part := range e.L {
		m, ok := straightTold(part, names)
		if !ok {
			return nil, false
		}
		parts = append(parts, m)
	}
	var m byName
	switch {
	case e.K == impl.ENum:
		m = byName{"": e.N}.settled()
	case e.K == impl.EVar && slices.Contains(names, e.S):
		m = byName{e.S: 1}
	case e.K == impl.EAdd:
		m = parts[0].plus(1, parts[1])
	case e.K == impl.ESub:
		m = parts[0].plus(-1, parts[1])
	case e.K == impl.EMul && parts[0].alone():
		m = byName{}.plus(parts[0][""], parts[1])
	case e.K == impl.EMul && parts[1].alone():
		m = byName{}.plus(parts[1][""], parts[0])
	default:
		return nil, false
	}
	return m, m.within()
}

// coefEdges are numbers that may stand in a straight sum, coefWrongs some that may not.
var (
	coefEdges  = []int{1, -1, 2, -2, 7, 99999, -99999, 100000, -100000}
	coefWrongs = []int{100001, -100001, 100002, 131072, 199999, 200000, -200000, 1 << 31, 1 << 32, 1<<32 + 1, -1<<32 - 1, 1<<33 + 100000, math.MaxInt, math.MinInt, math.MinInt + 1}
)

func TestAffOkNumberAlone(t *testing.T) {
	for _, terms := range [][]impl.Term{nil, {}, make([]impl.Term, 0, 4)} {
		wantAffOk(t, true, affOf(0, terms...))
		for _, n := range coefEdges {
			wantAffOk(t, true, affOf(n, terms...))
		}
		for _, n := range coefWrongs {
			wantAffOk(t, false, affOf(n, terms...))
		}
	}
}

func TestAffOkNumbers(t *testing.T) {
	full := []impl.Term{termOf("a", 1), termOf("i", -3), termOf("j", 100000), termOf("zzzzzz", -100000)}
	for count := range 5 {
		wantAffOk(t, true, affOf(5, full[:count]...))
		for at := range count {
			for _, n := range coefEdges {
				wantAffOk(t, true, affOf(0, replaced(full[:count], at, termOf(full[at].Name, n))...))
			}
			for _, n := range append([]int{0}, coefWrongs...) {
				wantAffOk(t, false, affOf(0, replaced(full[:count], at, termOf(full[at].Name, n))...))
			}
		}
		for _, n := range coefWrongs {
			wantAffOk(t, false, affOf(n, full[:count]...))
		}
	}
	wantAffOk(t, false, affOf(0, impl.Term{}))
}

func TestAffOkNames(t *testing.T) {
	for i, names := range [][]string{rightNames, wrongNames} {
		for _, name := range names {
			wantAffOk(t, i == 0, affOf(1, termOf(name, 2)))
		}
	}
	wantAffOk(t, false, affOf(0, termOf("", 1), termOf("i", 1)))
	wantAffOk(t, false, affOf(0, termOf("a", 1), termOf("for", 1)))
	wantAffOk(t, false, affOf(0, termOf("a", 1), termOf("for", 1), termOf("i", 1)))
	wantAffOk(t, false, affOf(0, termOf("i", 1), termOf("jjjjjjj", 1)))
}

func TestAffOkOrder(t *testing.T) {
	// A beginning comes ahead of what goes on.
	names := []string{"a", "aa", "aaa", "ab", "abz", "b", "i", "ii", "z", "za"}
	var all []impl.Term
	for at, name := range names {
		all = append(all, termOf(name, at+1))
		for other, second := range names {
			wantAffOk(t, at < other, affOf(0, termOf(name, 1), termOf(second, 1)))
			wantAffOk(t, at < other, affOf(0, termOf(name, 2), termOf(second, -2)))
		}
	}
	wantAffOk(t, true, affOf(0, all...))
	for at := range all {
		wantAffOk(t, true, affOf(0, slices.Delete(slices.Clone(all), at, at+1)...))
		wantAffOk(t, false, affOf(0, slices.Insert(slices.Clone(all), at, all[at])...))
		wantAffOk(t, false, affOf(0, slices.Insert(slices.Clone(all), at+1, termOf(all[at].Name, 3))...))
		if at > 0 {
			wantAffOk(t, false, affOf(0, replaced(replaced(all, at, all[at-1]), at-1, all[at])...))
		}
	}
	// There may be any number of them.
	var many []impl.Term
	for a := 'a'; a <= 'z'; a++ {
		for b := 'a'; b <= 'z'; b++ {
			many = append(many, termOf("x"+string(a)+string(b), 1+len(many)))
		}
	}
	wantAffOk(t, true, affOf(0, many...))
	wantAffOk(t, false, affOf(0, append(slices.Clone(many), many[0])...))
	wantAffOk(t, false, affOf(0, append(slices.Clone(many), termOf("xzzz", 0))...))
}

func TestAffOfEachKind(t *testing.T) {
	names := []string{"i", "j", "k"}
	i, j := termOf("i", 1), termOf("j", 1)
	for text, want := range map[string]impl.Aff{
		"0": {}, "7": affOf(7), "99999": affOf(99999), "100000": affOf(100000),
		"i": affOf(0, i), "j": affOf(0, j),
		"i + 1": affOf(1, i), "1 + i": affOf(1, i), "i + j": affOf(0, i, j), "j + i": affOf(0, i, j), "i + i": affOf(0, termOf("i", 2)),
		"i - 1": affOf(-1, i), "1 - i": affOf(1, termOf("i", -1)), "i - j": affOf(0, i, termOf("j", -1)), "j - i": affOf(0, termOf("i", -1), j),
		"k + i - j + 3": affOf(3, i, termOf("j", -1), termOf("k", 1)), "k + (i - (j + 3))": affOf(-3, i, termOf("j", -1), termOf("k", 1)), "0 - i - i": affOf(0, termOf("i", -2)),
		"3 * i": affOf(0, termOf("i", 3)), "i * 3": affOf(0, termOf("i", 3)), "3 * 4": affOf(12), "0 * 4": {}, "3 * 0": {},
		"2 * (i + 3 * j + 4)": affOf(8, termOf("i", 2), termOf("j", 6)), "(i + 3 * j + 4) * 2": affOf(8, termOf("i", 2), termOf("j", 6)),
		"(1 - 3) * (i - 2 * j + 4)": affOf(-8, termOf("i", -2), termOf("j", 4)), "(i - 2 * j + 4) * (1 - 3)": affOf(-8, termOf("i", -2), termOf("j", 4)),
		"2 * i * 3": affOf(0, termOf("i", 6)), "2 * 3 * i": affOf(0, termOf("i", 6)), "i * 2 * 3": affOf(0, termOf("i", 6)), "(i + 1) * (2 + 3)": affOf(5, termOf("i", 5)),
	} {
		wantAffOf(t, parsedExp(t, text), names, want)
	}
}

// Watched here: what comes to nothing leaves no Term, and counts as a number alone.
func TestAffOfNothing(t *testing.T) {
	names := []string{"x", "y"}
	for text, want := range map[string]impl.Aff{
		"x - x": {}, "0 * x": {}, "x * 0": {}, "x + y - x - y": {}, "2 * x - x - x": {}, "0 * (x + y + 3)": {}, "(x - x) * 0": {}, "0 - 0": {},
		"x - x + 3": affOf(3), "x + y - x": affOf(0, termOf("y", 1)), "x + y - y": affOf(0, termOf("x", 1)), "x + 3 - 3": affOf(0, termOf("x", 1)), "2 * x - (x + x) + y * 2": affOf(0, termOf("y", 2)),
		"(x - x + 3) * y": affOf(0, termOf("y", 3)), "y * (x - x + 3)": affOf(0, termOf("y", 3)), "(x - x) * y": {}, "y * (x - x)": {}, "0 * x * y": {}, "y * (0 * x)": {},
		"(x - x + 3) * (y - y + 2)": affOf(6), "(x - x + 3) * (x - x + 3)": affOf(9), "(x - x + 2) * (x + y * 3 - 1)": affOf(-2, termOf("x", 2), termOf("y", 6)),
		"100000 * x - 100000 * x": {}, "100000 - 100000": {}, "0 * 100000": {},
	} {
		wantAffOf(t, parsedExp(t, text), names, want)
	}
	for _, text := range []string{"x * y", "y * x", "x * x", "x * y * 0", "0 * (x * y)", "x * y - x * y", "(x + 1) * (y + 1)", "(x - x + y) * x", "2 * x * y"} {
		wantNoAffOf(t, parsedExp(t, text), names)
	}
}

// A place, and the lesser or greater of two, is something else, whatever it would come to.
func TestAffOfSomethingElse(t *testing.T) {
	names := []string{"i", "j", "a"}
	for _, text := range []string{"a[i]", "a[0]", "min(i, j)", "max(i, j)", "min(i, i)", "max(1, 1)", "min(1, 2)", "min(0, 0)", "q", "b"} {
		for _, around := range []string{"%", "% + 1", "1 + %", "% - %", "i - %", "2 * %", "% * 2", "0 * %", "% * 0", "(i + 1) * %", "i + j - (3 + %)"} {
			wantNoAffOf(t, parsedExp(t, strings.ReplaceAll(around, "%", text)), names)
		}
	}
}

func TestAffOfNames(t *testing.T) {
	x := affOf(0, termOf("x", 1))
	for _, names := range [][]string{{"x"}, {"x", "x"}, {"y", "x"}, {"x", "y", "x"}, {"z", "x", "a"}, {"", "for", "x"}} {
		wantAffOf(t, varExp("x"), names, x)
		wantAffOf(t, parsedExp(t, "x + x + 2"), names, affOf(2, termOf("x", 2)))
		wantAffOf(t, numExp(2), names, affOf(2))
	}
	for _, names := range [][]string{nil, {}, {"y"}, {""}, {"xx"}, {"X"}, {"y", "xy", "yx"}} {
		wantNoAffOf(t, varExp("x"), names)
		wantNoAffOf(t, parsedExp(t, "x - x"), names)
		wantNoAffOf(t, parsedExp(t, "0 * x"), names)
		wantAffOf(t, parsedExp(t, "2 * (3 - 5)"), names, affOf(-4))
	}
	// What lies behind the length of names is none of them.
	room := []string{"x", "y"}
	wantNoAffOf(t, varExp("y"), room[:1])
	// The names are ascending in the answer, however they stand in names or in the text.
	for _, names := range [][]string{{"a", "ab", "b"}, {"b", "ab", "a"}, {"ab", "b", "a", "ab"}} {
		for _, text := range []string{"a + 2 * ab + 3 * b", "3 * b + 2 * ab + a", "b * 3 + a + ab * 2", "2 * (ab + b) + (b + a)"} {
			wantAffOf(t, parsedExp(t, text), names, affOf(0, termOf("a", 1), termOf("ab", 2), termOf("b", 3)))
		}
	}
}

func TestAffOfLimits(t *testing.T) {
	names := []string{"i", "j"}
	for text, want := range map[string]impl.Aff{
		"100000": affOf(100000), "0 - 100000": affOf(-100000), "99999 + 1": affOf(100000), "0 - 99999 - 1": affOf(-100000), "50000 * 2": affOf(100000), "1000 * (0 - 100)": affOf(-100000),
		"100000 * i": affOf(0, termOf("i", 100000)), "i * (0 - 100000)": affOf(0, termOf("i", -100000)), "99999 * i + i": affOf(0, termOf("i", 100000)), "(0 - 99999) * i - i": affOf(0, termOf("i", -100000)), "100 * (i * 1000)": affOf(0, termOf("i", 100000)),
		"100000 * i + 100000 - 100000 * j": affOf(100000, termOf("i", 100000), termOf("j", -100000)), "50000 * (2 * i - 2 * j + 2)": affOf(100000, termOf("i", 100000), termOf("j", -100000)),
		"100000 - 1 + 1": affOf(100000), "100000 + 0 * i - 200": affOf(99800), "100000 * (1 + i - i)": affOf(100000),
	} {
		wantAffOf(t, parsedExp(t, text), names, want)
	}
	for _, text := range []string{
		"100001", "999999", "0 - 100001", "100000 + 1", "0 - 100000 - 1", "50001 * 2", "1001 * 100", "316 * 317", "100000 * 100000", "99999 * 99999",
		"100001 * i", "i * 100001", "100000 * i + i", "(0 - 100000) * i - i", "1001 * (100 * i)", "(i + 100000) * 2", "100000 * (i + i)", "2 * (i - 50001 * j)", "2 * (i - 50001)",
		// Past it on the way, and back again.
		"100001 - 1", "100000 + 1 - 1", "0 - 100000 - 1 + 1", "100001 - 100001", "0 * 100001", "100001 * 0", "100001 * (i - i)", "100000 * i + i - i", "100001 * i - i", "i - 100001 * i", "100000 * 2 - 150000", "(100000 + 1) * 0", "0 * (100000 * i + i)", "1 - (100000 + 1)", "j + (100000 * i + i - i)", "(i * 60000 + i * 60000) - i * 60000",
	} {
		wantNoAffOf(t, parsedExp(t, text), names)
	}
}

func TestAffOfNoKind(t *testing.T) {
	names := append([]string{"x", "y", "i"}, wrongNames...)
	one, two, three := []impl.Exp{numExp(1)}, []impl.Exp{numExp(1), numExp(1)}, []impl.Exp{numExp(1), numExp(1), numExp(1)}
	wrong := []impl.Exp{numExp(-100001), numExp(100001), numExp(1000000), numExp(math.MaxInt), numExp(math.MinInt), {K: impl.ENum, N: 1 << 32}, {K: impl.EVar, S: "q", N: 1}, {K: impl.EVar, N: 1, L: one}}
	for _, l := range [][]impl.Exp{nil, {}, one, two, three} {
		for _, k := range []int{0, -1, 9, 10, 1 << 32, impl.EAt, impl.EMin, impl.EMax} {
			wrong = append(wrong, impl.Exp{K: k, L: l}, impl.Exp{K: k, N: 1, S: "x", L: l})
		}
		// Not of two, be they as they will.
		if len(l) != 2 {
			for _, k := range []int{impl.EAdd, impl.ESub, impl.EMul} {
				wrong = append(wrong, impl.Exp{K: k, L: l}, impl.Exp{K: k, N: 1, S: "x", L: l})
			}
		}
	}
	for _, name := range wrongNames {
		wrong = append(wrong, varExp(name), twoExp(impl.ESub, varExp("x"), varExp(name)))
	}
	for _, e := range wrong {
		wantNoAffOf(t, e, names)
		for _, around := range []impl.Exp{twoExp(impl.EAdd, e, numExp(1)), twoExp(impl.ESub, varExp("x"), e), twoExp(impl.EMul, numExp(0), e), twoExp(impl.EMul, e, numExp(0)), twoExp(impl.ESub, e, e)} {
			wantNoAffOf(t, around, names)
			wantNoAffOf(t, twoExp(impl.EAdd, numExp(3), around), names)
		}
	}
	// What lies behind the length of an L is no part.
	wantNoAffOf(t, impl.Exp{K: impl.EAdd, L: three[:1]}, names)
	wantAffOf(t, impl.Exp{K: impl.EAdd, L: three[:2]}, names, affOf(2))
}

// What a kind does not name is not looked at, and no more is asked of an expression than that it comes to a straight sum.
func TestAffOfLooksAtNoMore(t *testing.T) {
	x, odd := termOf("x", 1), []impl.Exp{varExp("x"), {K: 9}, numExp(1 << 40)}
	pairIn := func(k, n int, s string, l, r impl.Exp) impl.Exp {
		return impl.Exp{K: k, N: n, S: s, L: []impl.Exp{l, r}}
	}
	for _, c := range []struct {
		e    impl.Exp
		want impl.Aff
	}{
		{numExp(-1), affOf(-1)}, {numExp(-100000), affOf(-100000)}, {impl.Exp{K: impl.ENum, N: 3, S: "x"}, affOf(3)}, {impl.Exp{K: impl.ENum, N: 3, S: "for"}, affOf(3)}, {impl.Exp{K: impl.ENum, N: 3, L: odd}, affOf(3)}, {impl.Exp{K: impl.ENum, N: -3, S: "?", L: odd[:1]}, affOf(-3)},
		{impl.Exp{K: impl.EVar, S: "x", N: 7}, affOf(0, x)}, {impl.Exp{K: impl.EVar, S: "x", N: math.MinInt}, affOf(0, x)}, {impl.Exp{K: impl.EVar, S: "x", L: odd}, affOf(0, x)}, {impl.Exp{K: impl.EVar, S: "x", N: -1, L: odd[1:]}, affOf(0, x)},
		{pairIn(impl.EAdd, 5, "x", numExp(1), numExp(2)), affOf(3)}, {pairIn(impl.ESub, -5, "", numExp(1), varExp("x")), affOf(1, termOf("x", -1))}, {pairIn(impl.EMul, 0, "q", numExp(2), varExp("x")), affOf(0, termOf("x", 2))}, {pairIn(impl.EMul, math.MaxInt, "max", varExp("x"), numExp(-2)), affOf(0, termOf("x", -2))},
	} {
		wantAffOf(t, c.e, []string{"x"}, c.want)
		wantAffOf(t, twoExp(impl.EAdd, c.e, numExp(0)), []string{"x"}, c.want)
		wantAffOf(t, twoExp(impl.EMul, numExp(1), twoExp(impl.ESub, c.e, twoExp(impl.ESub, c.e, c.e))), []string{"x"}, c.want)
	}
}

// smudged is e with something in each part that its kind does not name.
func (m *maker) smudged(e impl.Exp) impl.Exp {
	n, s := []int{0, 1, -1, 1 << 40}[m.pick(4)], []string{"", "i", "for", "?"}[m.pick(4)]
	l := [][]impl.Exp{nil, {{K: 9}}, {varExp("q"), numExp(-1)}}[m.pick(3)]
	switch e.K {
	case impl.ENum:
		return impl.Exp{K: e.K, N: e.N, S: s, L: l}
	case impl.EVar:
		return impl.Exp{K: e.K, N: n, S: e.S, L: l}
	}
	out := impl.Exp{K: e.K, N: n, S: s}
	for _, part := range e.L {
		out.L = append(out.L, m.smudged(part))
	}
	return out
}

// However deep it is, and however many parts it has.
func TestAffOfDeep(t *testing.T) {
	names := []string{"x"}
	left, right, wide, nothing := varExp("x"), varExp("x"), varExp("x"), varExp("x")
	wrong := varExp("y")
	for depth := 1; depth <= 40000; depth++ {
		if depth <= 12 || depth%8000 == 0 {
			want := affOf(depth-1, termOf("x", 1))
			for _, e := range []impl.Exp{left, right} {
				if a, ok := impl.AffOf(e, names); !ok || affText(a) != affText(want) {
					t.Errorf("AffOf of what is %d deep is %.200s, %v", depth, affText(a), ok)
				}
			}
			if a, ok := impl.AffOf(wrong, names); ok || affText(a) != "0" {
				t.Errorf("AffOf of something else that is %d deep is %.200s, %v", depth, affText(a), ok)
			}
		}
		left, right, wrong = twoExp(impl.EAdd, left, numExp(1)), twoExp(impl.EAdd, numExp(1), right), twoExp(impl.ESub, numExp(1), wrong)
	}
	// Both parts are the same two, again and again.
	for depth := range 300 {
		a, ok := impl.AffOf(wide, names)
		if want := affOf(0, termOf("x", 1<<min(depth, 20))); depth <= 16 {
			wantSum(t, a, ok, want, true, "x, ", depth, " times doubled")
		} else {
			wantSum(t, a, ok, impl.Aff{}, false, "x, ", depth, " times doubled")
		}
		nothing, wide = twoExp(impl.ESub, nothing, nothing), twoExp(impl.EAdd, wide, wide)
		a, ok = impl.AffOf(nothing, names)
		wantSum(t, a, ok, impl.Aff{}, true, "x, ", depth, " times less itself")
	}
	// The same two may be parts of several kinds.
	l := []impl.Exp{varExp("x"), numExp(3)}
	each := twoExp(impl.EAdd, twoExp(impl.ESub, impl.Exp{K: impl.EMul, L: l}, impl.Exp{K: impl.EAdd, L: l}), impl.Exp{K: impl.ESub, L: l})
	wantAffOf(t, each, names, affOf(-6, termOf("x", 3)))
}

// What stands in itself comes to nothing that could be told.
func TestAffOfItself(t *testing.T) {
	one, first, second, far := make([]impl.Exp, 2), make([]impl.Exp, 2), make([]impl.Exp, 2), make([]impl.Exp, 2)
	for k := impl.EAdd; k <= impl.EMul; k++ {
		whole := impl.Exp{K: k, L: one}
		one[0], one[1] = whole, whole
		first[0], first[1] = impl.Exp{K: k, L: first}, numExp(0)
		second[0], second[1] = numExp(0), impl.Exp{K: k, L: second}
		far[0], far[1] = varExp("x"), twoExp(impl.ESub, numExp(1), twoExp(impl.EAdd, impl.Exp{K: k, L: far}, numExp(2)))
		for _, l := range [][]impl.Exp{one, first, second, far} {
			for _, e := range []impl.Exp{{K: k, L: l}, twoExp(impl.EAdd, numExp(1), impl.Exp{K: k, L: l}), twoExp(impl.EMul, numExp(0), impl.Exp{K: k, L: l})} {
				if a, ok := impl.AffOf(e, []string{"x"}); ok || affText(a) != "0" {
					t.Error("what stands in itself is a straight sum")
				}
			}
		}
		// A number does not name the L in which it stands itself.
		second[1] = impl.Exp{K: impl.ENum, N: 4, L: second}
		if a, ok := impl.AffOf(impl.Exp{K: impl.EAdd, L: second}, nil); !ok || affText(a) != "4" {
			t.Error("the L of a number is looked at")
		}
	}
}

// straightExp makes expressions at random, most of which are straight sums.
func (m *maker) straightExp(depth int) impl.Exp {
	if depth == 1 || m.pick(5) == 0 {
		if m.pick(2) == 0 {
			return varExp([]string{"i", "j", "k", "ij"}[m.pick(4)])
		}
		return numExp([]int{0, 0, 1, 1, 2, 3, 10, 300, 999, 33333, 50000, 99999, 100000}[m.pick(13)])
	}
	switch m.pick(12) {
	case 0, 1, 2:
		return twoExp(impl.EMul, numExp([]int{0, 1, 2, 3, 100, 1000}[m.pick(6)]), m.straightExp(depth-1))
	case 3, 4:
		return twoExp(impl.EMul, m.straightExp(depth-1), m.straightExp(depth-1))
	case 5, 6, 7:
		return twoExp(impl.ESub, m.straightExp(depth-1), m.straightExp(depth-1))
	}
	return twoExp(impl.EAdd, m.straightExp(depth-1), m.straightExp(depth-1))
}

// Each of many sums, held against a second way to it, and against what Eval makes of it.
func TestAffOfAsTold(t *testing.T) {
	m := maker{seed: 80, arrays: []string{"a"}}
	names := []string{"k", "ij", "i", "j", "i"}
	right, wrong := 0, 0
	for n := range 6000 {
		e := m.straightExp(1 + n%5)
		if n%10 == 0 {
			e = m.exp(3)
		}
		told, ok := straightTold(e, names)
		if !ok {
			wrong++
			wantNoAffOf(t, e, names)
			wantNoAffOf(t, m.smudged(e), names)
			continue
		}
		right++
		wantAffOf(t, e, names, told.aff())
		a, ok := impl.AffOf(m.smudged(e), names)
		wantSum(t, a, ok, told.aff(), true, "AffOf of ", toldExp(e), " with more than its kinds name")
		if !impl.ExpOk(e) {
			continue
		}
		binds := []impl.Bind{{Name: "i", N: m.pick(41) - 20}, {Name: "j", N: m.pick(41) - 20}, {Name: "k", N: m.pick(41) - 20}, {Name: "ij", N: m.pick(41) - 20}}
		if word, _ := impl.Eval(impl.Prog{}, impl.Sto{}, binds, e); impl.AffAt(a, binds) != word {
			t.Errorf("AffAt of %q at %v is %d, not %d", toldExp(e), binds, impl.AffAt(a, binds), word)
		}
	}
	if right < 2000 || wrong < 500 {
		t.Errorf("%d right ones and %d wrong ones are too few to tell", right, wrong)
	}
}

func TestAddAndSubTerms(t *testing.T) {
	i, j, k := termOf("i", 2), termOf("j", -3), termOf("k", 5)
	for _, c := range []struct{ a, b, sum, less impl.Aff }{
		{impl.Aff{}, impl.Aff{}, impl.Aff{}, impl.Aff{}},
		{affOf(5), affOf(3), affOf(8), affOf(2)},
		{affOf(3), affOf(5), affOf(8), affOf(-2)},
		{affOf(5, i), impl.Aff{}, affOf(5, i), affOf(5, i)},
		{impl.Aff{}, affOf(5, i, j), affOf(5, i, j), affOf(-5, termOf("i", -2), termOf("j", 3))},
		// Of the same Names.
		{affOf(1, i), affOf(2, termOf("i", 7)), affOf(3, termOf("i", 9)), affOf(-1, termOf("i", -5))},
		{affOf(1, i, j, k), affOf(2, termOf("i", 1), termOf("j", 1), termOf("k", 1)), affOf(3, termOf("i", 3), termOf("j", -2), termOf("k", 6)), affOf(-1, termOf("i", 1), termOf("j", -4), termOf("k", 4))},
		// Of others, ahead, between, behind, and around.
		{affOf(0, j), affOf(0, i), affOf(0, i, j), affOf(0, termOf("i", -2), j)},
		{affOf(0, i), affOf(0, j), affOf(0, i, j), affOf(0, i, termOf("j", 3))},
		{affOf(0, i, k), affOf(0, j), affOf(0, i, j, k), affOf(0, i, termOf("j", 3), k)},
		{affOf(0, j), affOf(0, i, k), affOf(0, i, j, k), affOf(0, termOf("i", -2), j, termOf("k", -5))},
		{affOf(0, i, j), affOf(0, j, k), affOf(0, i, termOf("j", -6), k), affOf(0, i, termOf("k", -5))},
		{affOf(0, termOf("a", 1), termOf("aa", 1)), affOf(0, termOf("aaa", 1), termOf("b", 1)), affOf(0, termOf("a", 1), termOf("aa", 1), termOf("aaa", 1), termOf("b", 1)), affOf(0, termOf("a", 1), termOf("aa", 1), termOf("aaa", -1), termOf("b", -1))},
		// What comes to nothing, of one, of some, of all.
		{affOf(4, i), affOf(4, i), affOf(8, termOf("i", 4)), impl.Aff{}},
		{affOf(4, i), affOf(-4, termOf("i", -2)), impl.Aff{}, affOf(8, termOf("i", 4))},
		{affOf(1, i, j, k), affOf(1, i, j, k), affOf(2, termOf("i", 4), termOf("j", -6), termOf("k", 10)), impl.Aff{}},
		{affOf(1, i, j, k), affOf(-1, termOf("i", -2), termOf("j", 3), termOf("k", -5)), impl.Aff{}, affOf(2, termOf("i", 4), termOf("j", -6), termOf("k", 10))},
		{affOf(1, i, j, k), affOf(1, j), affOf(2, i, termOf("j", -6), k), affOf(0, i, k)},
		{affOf(1, i, j, k), affOf(1, termOf("j", 3)), affOf(2, i, k), affOf(0, i, termOf("j", -6), k)},
	} {
		wantAdd(t, c.a, c.b, c.sum, true)
		wantAdd(t, c.b, c.a, c.sum, true)
		wantSub(t, c.a, c.b, c.less, true)
		wantSub(t, c.sum, c.b, c.a, true)
		wantAdd(t, c.less, c.b, c.a, true)
	}
}

func TestAddAndSubLimits(t *testing.T) {
	for _, c := range []struct{ a, b int }{{99999, 1}, {1, 99999}, {50000, 50000}, {100000, 0}, {0, 100000}, {-99999, -1}, {-50000, -50000}, {0, -100000}, {100000, -100000}, {-100000, 100000}} {
		sum := c.a + c.b
		wantAdd(t, affOf(c.a), affOf(c.b), affOf(sum), true)
		wantSub(t, affOf(c.a), affOf(-c.b), affOf(sum), true)
		if c.a == 0 || c.b == 0 {
			continue
		}
		var terms []impl.Term
		if sum != 0 {
			terms = append(terms, termOf("i", sum))
		}
		wantAdd(t, affOf(3, termOf("i", c.a)), affOf(0, termOf("i", c.b)), affOf(3, terms...), true)
		wantSub(t, affOf(3, termOf("i", c.a)), affOf(0, termOf("i", -c.b)), affOf(3, terms...), true)
	}
	for _, c := range []struct{ a, b int }{{100000, 1}, {1, 100000}, {50001, 50000}, {100000, 100000}, {-100000, -1}, {-1, -100000}, {-50000, -50001}, {-100000, -100000}} {
		wantAdd(t, affOf(c.a), affOf(c.b), impl.Aff{}, false)
		wantSub(t, affOf(c.a), affOf(-c.b), impl.Aff{}, false)
		// One that passes it is enough, ahead of others, between them or behind.
		for _, name := range []string{"i", "j", "k"} {
			a := affOf(1, termOf("i", 1), termOf("j", 1), termOf("k", 1))
			for at := range a.T {
				if a.T[at].Name == name {
					a.T[at].N = c.a
				}
			}
			wantAdd(t, a, affOf(1, termOf(name, c.b)), impl.Aff{}, false)
			wantSub(t, a, affOf(1, termOf(name, -c.b)), impl.Aff{}, false)
			wantAdd(t, affOf(1, termOf(name, c.b)), a, impl.Aff{}, false)
		}
	}
}

// What is not AffOk is refused on either side, also where what comes of it would be right.
func TestAddAndSubOfWrongOnes(t *testing.T) {
	wrong := []impl.Aff{
		affOf(0, termOf("i", 0)), affOf(0, termOf("i", 1), termOf("j", 0)), affOf(0, impl.Term{}), affOf(0, termOf("", 1)), affOf(0, termOf("for", 1)), affOf(0, termOf("abcdefg", 1)),
		affOf(0, termOf("j", 1), termOf("i", 1)), affOf(0, termOf("i", 1), termOf("i", 1)), affOf(0, termOf("i", 1), termOf("i", -1)),
	}
	for _, n := range coefWrongs {
		wrong = append(wrong, affOf(n), affOf(0, termOf("i", n)), affOf(1, termOf("a", 1), termOf("i", n)), affOf(n, termOf("i", 1)))
	}
	right := []impl.Aff{{}, affOf(1), affOf(-100000), affOf(100000), affOf(0, termOf("i", 1)), affOf(2, termOf("i", -100000), termOf("j", 1)), affOf(-2, termOf("i", 100000))}
	for _, a := range wrong {
		wantAffOk(t, false, a)
		for _, b := range append(right, wrong...) {
			wantAdd(t, a, b, impl.Aff{}, false)
			wantAdd(t, b, a, impl.Aff{}, false)
			wantSub(t, a, b, impl.Aff{}, false)
			wantSub(t, b, a, impl.Aff{}, false)
		}
	}
}

// aff makes straight sums at random, of few names, so that many of two meet.
func (m *maker) aff() impl.Aff {
	number := func() int {
		return []int{0, 0, 1, -1, 2, -2, 7, -40000, 50000, 60000, -100000, 100000, 99999}[m.pick(13)]
	}
	told := byName{"": number()}
	for range m.pick(5) {
		told[[]string{"a", "aa", "i", "j", "zzzzzz"}[m.pick(5)]] = number()
	}
	return told.settled().aff()
}

// P8: the sum of two is, name by name and at all Binds, what both are together, and the second taken away again leaves the first.
func TestSumsAreBothTogether(t *testing.T) {
	m := maker{seed: 88}
	binds := [][]impl.Bind{nil, {{Name: "i", N: 3}}, {{Name: "a", N: -7}, {Name: "aa", N: 11}, {Name: "i", N: 13}, {Name: "j", N: -17}, {Name: "zzzzzz", N: 19}}}
	right, wrong := 0, 0
	for range 4000 {
		a, b := m.aff(), m.aff()
		wantAffOk(t, true, a)
		for _, times := range []int{1, -1} {
			told := byNameOf(a).plus(times, byNameOf(b))
			both, back := impl.AddA, impl.SubA
			if times < 0 {
				both, back = impl.SubA, impl.AddA
			}
			got, ok := both(a, b)
			if !told.within() {
				wrong++
				wantSum(t, got, ok, impl.Aff{}, false, affText(a), " and ", times, " of ", affText(b))
				continue
			}
			right++
			wantSum(t, got, ok, told.aff(), true, affText(a), " and ", times, " of ", affText(b))
			again, ok := back(got, b)
			wantSum(t, again, ok, a, true, affText(a), " and ", times, " of ", affText(b), ", and back")
			for _, l := range binds {
				if impl.AffAt(got, l) != impl.AffAt(a, l)+times*impl.AffAt(b, l) {
					t.Errorf("%s and %d of %s are not both together at %v", affText(a), times, affText(b), l)
				}
			}
		}
	}
	if right < 2000 || wrong < 1000 {
		t.Errorf("%d right ones and %d wrong ones are too few to tell", right, wrong)
	}
}

func TestAffAt(t *testing.T) {
	a := affOf(5, termOf("i", 2), termOf("j", -3))
	bind := func(l ...any) []impl.Bind {
		var binds []impl.Bind
		for at := 0; at < len(l); at += 2 {
			binds = append(binds, impl.Bind{Name: l[at].(string), N: l[at+1].(int)})
		}
		return binds
	}
	for _, c := range []struct {
		a     impl.Aff
		binds []impl.Bind
		want  int
	}{
		{impl.Aff{}, nil, 0}, {affOf(-9), nil, -9}, {affOf(-9), bind("i", 4), -9}, {impl.Aff{}, bind("", 4), 0},
		// None is bound, one, all; and others.
		{a, nil, 5}, {a, []impl.Bind{}, 5}, {a, bind("k", 7), 5}, {a, bind("", 7, "ii", 8), 5},
		{a, bind("i", 4), 13}, {a, bind("j", 4), -7}, {a, bind("i", -4), -3}, {a, bind("i", 4, "j", 1), 10}, {a, bind("j", 1, "i", 4), 10}, {a, bind("k", 9, "j", 1, "k", 8, "i", 4, "k", 7), 10}, {a, bind("i", 0, "j", 0), 5},
		// Twice and more often: the last one.
		{a, bind("i", 9, "i", 4), 13}, {a, bind("i", 4, "i", 9), 23}, {a, bind("i", 4, "j", 2, "i", 0), -1}, {a, bind("i", 9, "j", 1, "i", 4), 10}, {a, bind("j", 1, "i", 1, "j", 2, "i", 2, "j", 3, "i", 3), 2},
		// Numbers are not Wrapped.
		{affOf(1, termOf("i", 100000)), bind("i", 1<<40), 100000<<40 + 1}, {affOf(0, termOf("i", -100000)), bind("i", greatestWord), -100000 * greatestWord}, {affOf(0, termOf("i", 1)), bind("i", math.MinInt), math.MinInt}, {affOf(0, termOf("i", 1)), bind("i", 1<<32), 1 << 32},
	} {
		if got := impl.AffAt(c.a, c.binds); got != c.want {
			t.Errorf("AffAt of %s at %v is %d, not %d", affText(c.a), c.binds, got, c.want)
		}
	}
	room := bind("i", 4, "i", 9)
	if got := impl.AffAt(a, room[:1]); got != 13 {
		t.Errorf("AffAt is %d, so it sees what lies behind the Binds", got)
	}
	if got := impl.AffAt(a, append(slices.Repeat(bind("i", 9), 1000000), bind("i", 4)...)); got != 13 {
		t.Errorf("AffAt at many Binds is %d", got)
	}
}

func TestCoefOf(t *testing.T) {
	a := affOf(9, termOf("a", 1), termOf("i", -3), termOf("ii", 100000), termOf("z", -100000))
	for name, want := range map[string]int{"a": 1, "i": -3, "ii": 100000, "z": -100000, "": 0, "b": 0, "iii": 0, "A": 0, "zz": 0, "for": 0} {
		if got := impl.CoefOf(a, name); got != want {
			t.Errorf("CoefOf of %q is %d, not %d", name, got, want)
		}
		if got := impl.CoefOf(affOf(7), name); got != 0 {
			t.Errorf("CoefOf of %q is %d where there are no Terms", name, got)
		}
	}
	if got := impl.CoefOf(impl.Aff{T: a.T[:2]}, "ii"); got != 0 {
		t.Errorf("CoefOf is %d of what lies behind the Terms", got)
	}
}

// Nothing is written into an argument or behind it, and an answer shares no memory with one.
func TestAffsAreNew(t *testing.T) {
	roomA := []impl.Term{termOf("i", 1), termOf("j", 2), termOf("k", 3), termOf("z", 4)}
	roomB := []impl.Term{termOf("a", 5), termOf("j", -2), termOf("k", -7), termOf("z", 8)}
	text := func() string { return affText(affOf(0, roomA...)) + affText(affOf(0, roomB...)) }
	kept := text()
	for countA := range 4 {
		for countB := range 4 {
			for _, c := range []int{1, 100000} {
				a, b := impl.Aff{C: c, T: roomA[:countA]}, impl.Aff{C: 4, T: roomB[:countB]}
				sum, _ := impl.AddA(a, b)
				less, _ := impl.SubA(a, b)
				twice, _ := impl.AddA(b, b)
				none, _ := impl.SubA(a, a)
				wantOwnMemory(t, roomA, roomB, sum.T, less.T, twice.T, none.T)
				impl.AffOk(a)
				impl.AffAt(a, []impl.Bind{{Name: "j", N: 3}})
				impl.CoefOf(a, "k")
				if text() != kept {
					t.Fatal("an argument was written into")
				}
			}
		}
	}
	names := []string{"j", "i", "k", "z"}
	for _, s := range []string{"i + 2 * j - k", "j", "(i - i) * k", "2 * (k + 3 * i)", "i * j", "z + i"} {
		e := parsedExp(t, s)
		keptExp := expText(e)
		a, _ := impl.AffOf(e, names[:3])
		b, _ := impl.AffOf(e, names[:3])
		wantOwnMemory(t, a.T, b.T)
		for i := range a.T {
			a.T[i] = termOf("q", 9)
		}
		c, _ := impl.AffOf(e, names[:3])
		if affText(b) != affText(c) || expText(e) != keptExp || !slices.Equal(names, []string{"j", "i", "k", "z"}) {
			t.Fatalf("AffOf of %q writes into an argument or keeps its answer", s)
		}
	}
}
