package tests

import (
	"fmt"
	"slices"
	"strings"
	"testing"

	"loop.example/g00476/impl"
)

var kindNames = []string{"none", "asked", "sum", "min", "max", "own", "tied"}

func wantCounts(t *testing.T, l []impl.Stmt, name string, sets, asks int) {
	t.Helper()
	if gotSets, gotAsks := impl.Counts(l, name); gotSets != sets || gotAsks != asks {
		t.Errorf("Counts of %q in %.400s are %d and %d, not %d and %d", name, stmtText(impl.Stmt{Body: l}), gotSets, gotAsks, sets, asks)
	}
}

func wantKind(t *testing.T, s impl.Stmt, name string, want int) {
	t.Helper()
	if got := impl.KindOf(s, name); got != want {
		t.Errorf("KindOf %q in %.400s is %s, not %s", name, stmtText(s), kindNames[got], kindNames[want])
	}
}

func wantSumsAndOwns(t *testing.T, s impl.Stmt, sums, owns []string) {
	t.Helper()
	if got := impl.Sums(s); !slices.Equal(got, sums) {
		t.Errorf("Sums of %.400s are %q, not %q", stmtText(s), got, sums)
	}
	if got := impl.Owns(s); !slices.Equal(got, owns) {
		t.Errorf("Owns of %.400s are %q, not %q", stmtText(s), got, owns)
	}
}

func TestCounts(t *testing.T) {
	for text, want := range map[string][2]int{
		"": {0, 0}, "y = 1;": {0, 0}, "print y;": {0, 0},
		// Set, asked, both.
		"x = 1;": {1, 0}, "x = 1; x = 2;": {2, 0}, "print x;": {0, 1}, "y = x;": {0, 1}, "x = x;": {1, 1}, "x = x + x * x;": {1, 3}, "x = min(x, max(x, x)); x = y; y = x;": {2, 4},
		// In places, and in Lo and Hi.
		"a[x] = 1;": {0, 1}, "a[1] = x;": {0, 1}, "a[a[x]] = a[x + x];": {0, 3}, "for i = x to 3 { y = 1; }": {0, 1}, "for i = 0 to x { y = 1; }": {0, 1}, "for i = x + x to a[x] { y = x; x = 1; }": {1, 4},
		// In Bodies of Bodies.
		"for i = 0 to 1 { x = 1; }": {1, 0}, "for i = 0 to 1 { for j = 0 to x { x = 1; print x; for k = 0 to 1 { x = x; a[x] = 1; } } x = 2; } print x;": {3, 5},
		// A loop's name is not set by it, nor is an array asked.
		"for x = 0 to 1 { y = 1; }": {0, 0}, "for x = 0 to 1 { y = x; }": {0, 1}, "array x 4; x[0] = x[1];": {0, 0}, "array x 4; y = x[x[y]];": {0, 0},
		// Names that only begin alike.
		"xx = 1; y = xx;": {0, 0}, "xx = x;": {0, 1}, "x = xx;": {1, 0},
	} {
		if !strings.Contains(text, "array") {
			text = "array a 4;" + text
		}
		wantCounts(t, parsed(t, text).Body, "x", want[0], want[1])
	}
	wantCounts(t, nil, "", 0, 0)
	wantCounts(t, []impl.Stmt{{}}, "", 0, 0)
	for _, name := range append(slices.Clone(wrongNames), rightNames...) {
		wantCounts(t, []impl.Stmt{setStmt(name, varExp(name)), printStmt(varExp(name)), loopIn(name, putStmt(name, numExp(0), atExp(name, numExp(1))))}, name, 1, 2)
	}
	// Behind the list nothing is looked at.
	l := []impl.Stmt{setStmt("x", numExp(1)), setStmt("x", varExp("x"))}
	wantCounts(t, l[:1], "x", 1, 0)
	l[0].Body = l[:0]
	wantCounts(t, l, "x", 2, 1)
}

func TestCountsOfUnnamedParts(t *testing.T) {
	x := varExp("x")
	for k := -1; k <= 6; k++ {
		s := impl.Stmt{K: k, S: "x", At: x, E: twoExp(impl.EAdd, x, x), Lo: atExp("a", x), Hi: x, Body: []impl.Stmt{setStmt("x", x), setStmt("y", x)}}
		sets := 1
		if k == impl.SSet {
			sets = 2
		}
		wantCounts(t, []impl.Stmt{s}, "x", sets, 7)
		wantCounts(t, []impl.Stmt{{K: k, S: "y", Body: []impl.Stmt{{K: k, S: "y", Body: []impl.Stmt{s}}}}}, "x", sets, 7)
		for _, reach := range expFields {
			alone := impl.Stmt{K: k, S: "y"}
			*reach(&alone) = x
			wantCounts(t, []impl.Stmt{alone}, "x", 0, 1)
		}
	}
	for k := -1; k <= 10; k++ {
		e := impl.Exp{K: k, N: 7, S: "x", L: []impl.Exp{x, {K: k, S: "y", L: []impl.Exp{{}, x}}, numExp(1)}}
		asks := 2
		if k == impl.EVar {
			asks = 3
		}
		wantCounts(t, []impl.Stmt{printStmt(e)}, "x", 0, asks)
	}
}

func TestKindOfNoLoop(t *testing.T) {
	body := []impl.Stmt{setStmt("x", twoExp(impl.EAdd, varExp("x"), numExp(1))), setStmt("y", varExp("z"))}
	for k := -1; k <= 6; k++ {
		s := impl.Stmt{K: k, S: "x", E: varExp("x"), Lo: numExp(0), Hi: numExp(1), Body: body}
		if k == impl.SFor {
			wantKind(t, s, "x", impl.ScSum)
			wantSumsAndOwns(t, s, []string{"x"}, []string{"y"})
			continue
		}
		for _, name := range []string{"x", "y", "z", ""} {
			wantKind(t, s, name, impl.ScNone)
		}
		wantSumsAndOwns(t, s, nil, nil)
	}
	wantKind(t, impl.Stmt{}, "", impl.ScNone)
	wantKind(t, impl.Stmt{K: impl.SFor}, "", impl.ScNone)
	wantSumsAndOwns(t, impl.Stmt{K: impl.SFor}, nil, nil)
	// What the loop itself has around its Body is not in it.
	wantKind(t, impl.Stmt{K: impl.SFor, S: "x", At: varExp("x"), E: varExp("x"), Lo: varExp("x"), Hi: varExp("x")}, "x", impl.ScNone)
	wantKind(t, parsed(t, "for i = x to x + 1 { y = 1; }").Body[0], "x", impl.ScNone)
	wantKind(t, parsed(t, "for i = x to x { x = 1; }").Body[0], "x", impl.ScOwn)
	wantKind(t, parsed(t, "for i = x to x { x = x + 1; }").Body[0], "x", impl.ScSum)
}

func TestKindOf(t *testing.T) {
	for body, want := range map[string]int{
		// Not there, and only asked.
		"y = 1;": impl.ScNone, "xx = a[i];": impl.ScNone, "for x = 0 to 1 { y = 1; }": impl.ScNone,
		"y = x;": impl.ScAsked, "a[x] = 1;": impl.ScAsked, "for j = 0 to x { y = x; }": impl.ScAsked, "for j = 0 to 1 { a[j] = x; }": impl.ScAsked, "for x = 0 to 1 { y = x; }": impl.ScAsked, "print x + x;": impl.ScAsked,
		// Itself at the left.
		"x = x + 1;": impl.ScSum, "x = x + a[i];": impl.ScSum, "x = x + (y - i * 2);": impl.ScSum, "x = min(x, i);": impl.ScMin, "x = min(x, y + a[i]);": impl.ScMin, "x = max(x, 3);": impl.ScMax, "x = max(x, min(y, i));": impl.ScMax, "y = i; x = x + y; a[i] = y;": impl.ScSum, "for j = 0 to 1 { a[j] = 1; } x = min(x, a[i]);": impl.ScMin, "x = x + xx;": impl.ScSum,
		// Itself at the right.
		"x = 1 + x;": impl.ScTied, "x = a[i] + x;": impl.ScTied, "x = min(i, x);": impl.ScTied, "x = max(3, x);": impl.ScTied,
		// Itself deeper at the left.
		"x = x + 1 + 2;": impl.ScTied, "x = min(x + 1, 2);": impl.ScTied, "x = max(max(x, 1), 2);": impl.ScTied, "x = x * 1 + 2;": impl.ScTied, "x = a[x] + 2;": impl.ScTied,
		// Itself in the something, too.
		"x = x + x;": impl.ScTied, "x = x + x * 2;": impl.ScTied, "x = min(x, x);": impl.ScTied, "x = max(x, i - x);": impl.ScTied, "x = x + a[x];": impl.ScTied, "x = min(x, max(1, a[1 + x]));": impl.ScTied,
		// Other ways to go on from itself.
		"x = x - 1;": impl.ScTied, "x = x * 2;": impl.ScTied, "x = x;": impl.ScTied, "x = a[x];": impl.ScTied, "x = 1 - x;": impl.ScTied,
		// A sum beside which it is asked, ahead, behind, and in a loop within.
		"y = x; x = x + 1;": impl.ScTied, "x = x + 1; y = x;": impl.ScTied, "x = x + 1; for j = 0 to 1 { y = x; }": impl.ScTied, "for j = 0 to x { y = 1; } x = x + 1;": impl.ScTied, "a[x] = 1; x = min(x, 1);": impl.ScTied, "x = max(x, 1); print x;": impl.ScTied,
		// A sum in a loop within, two sums, and sums beside what sets it.
		"for j = 0 to 1 { x = x + 1; }": impl.ScTied, "for j = 0 to 1 { for k = 0 to 1 { x = min(x, j); } }": impl.ScTied, "x = x + 1; x = x + 2;": impl.ScTied, "x = min(x, 1); x = min(x, 2);": impl.ScTied, "x = x + 1; x = 2;": impl.ScTied, "x = 2; x = x + 1;": impl.ScTied, "x = x + 1; for j = 0 to 1 { x = x + 1; }": impl.ScTied,
		// Set first, and asked behind it.
		"x = 1;": impl.ScOwn, "x = a[i] + y;": impl.ScOwn, "x = 1; y = x;": impl.ScOwn, "y = 2; x = y; a[x] = x; print x + x;": impl.ScOwn, "x = i; for j = 0 to x { y = x; }": impl.ScOwn, "for j = 0 to 1 { y = 2; } x = y;": impl.ScOwn, "x = min(1, i);": impl.ScOwn, "x = xx; xx = x;": impl.ScOwn,
		// Asked ahead of it, in what it is set to, or behind what is ahead.
		"y = x; x = 1;": impl.ScTied, "a[x] = 1; x = 1;": impl.ScTied, "for j = 0 to x { y = 1; } x = 1;": impl.ScTied, "for j = 0 to 1 { y = x; } x = 1;": impl.ScTied, "x = x * 2; y = x;": impl.ScTied, "x = 3 - x;": impl.ScTied, "print x; x = 1; y = x;": impl.ScTied,
		// Set by two Stmts, or in a loop within.
		"x = 1; x = 2;": impl.ScTied, "x = 1; y = x; x = 2;": impl.ScTied, "x = 1; for j = 0 to 1 { x = j; }": impl.ScTied, "for j = 0 to 1 { x = j; }": impl.ScTied, "for j = 0 to 1 { x = j; } x = 1;": impl.ScTied, "for j = 0 to 1 { x = j; } y = x;": impl.ScTied, "x = 1; for j = 0 to 1 { for k = 0 to 1 { x = j; } }": impl.ScTied,
	} {
		s := loopParsed(t, "for i = 0 to 3 { "+body+" }")
		wantKind(t, s, "x", want)
		isSum := want == impl.ScSum || want == impl.ScMin || want == impl.ScMax
		if slices.Contains(impl.Sums(s), "x") != isSum || slices.Contains(impl.Owns(s), "x") != (want == impl.ScOwn) {
			t.Errorf("of %q, %s, are Sums %q and Owns %q", body, kindNames[want], impl.Sums(s), impl.Owns(s))
		}
	}
}

// Each word around the loop of another one: only what stands in the inner Body counts for the inner, and all of it for the outer.
func TestKindOfLoopsWithin(t *testing.T) {
	s := loopParsed(t, "for i = 0 to 3 { t = i; for j = 0 to 3 { s = s + t; m = j; t = m; } u = m; }")
	for name, want := range map[string][2]int{"s": {impl.ScTied, impl.ScSum}, "t": {impl.ScTied, impl.ScTied}, "m": {impl.ScTied, impl.ScOwn}, "u": {impl.ScOwn, impl.ScNone}, "i": {impl.ScAsked, impl.ScNone}, "j": {impl.ScAsked, impl.ScAsked}, "q": {impl.ScNone, impl.ScNone}} {
		wantKind(t, s, name, want[0])
		wantKind(t, s.Body[1], name, want[1])
	}
	wantSumsAndOwns(t, s, nil, []string{"u"})
	wantSumsAndOwns(t, s.Body[1], []string{"s"}, []string{"m"})
}

// named tells which fields of an Exp each kind of Stmt names.
var named = map[int][]string{impl.SSet: {"E"}, impl.SPut: {"At", "E"}, impl.SFor: {"Lo", "Hi"}, impl.SPrint: {"E"}}

// smudgedWith has in each part that the kinds do not name the Exp, or statements that set and ask its name.
func smudgedWith(s impl.Stmt, e impl.Exp) impl.Stmt {
	for field, reach := range expFields {
		if slices.Contains(named[s.K], field) {
			*reach(&s) = smudgedExpWith(*reach(&s), e)
		} else {
			*reach(&s) = e
		}
	}
	if s.K != impl.SFor {
		s.Body = []impl.Stmt{putStmt("b", e, e), setStmt(e.S, twoExp(impl.EAdd, e, e))}
		return s
	}
	s.Body = slices.Clone(s.Body)
	for i, inner := range s.Body {
		s.Body[i] = smudgedWith(inner, e)
	}
	return s
}

func smudgedExpWith(e impl.Exp, with impl.Exp) impl.Exp {
	if e.K == impl.ENum || e.K == impl.EVar {
		e.L = []impl.Exp{with, with}
		return e
	}
	e.L = slices.Clone(e.L)
	for i, part := range e.L {
		e.L[i] = smudgedExpWith(part, with)
	}
	return e
}

// What the kind does not name is neither asked nor set.
func TestKindOfUnnamedParts(t *testing.T) {
	x, y := varExp("x"), varExp("y")
	sum, own := setStmt("x", twoExp(impl.EAdd, x, numExp(1))), setStmt("x", numExp(1))
	body := []impl.Stmt{setStmt("x", twoExp(impl.EMul, x, x)), putStmt("b", x, y)}
	for field, reach := range expFields {
		for k := -1; k <= 6; k++ {
			beside := impl.Stmt{K: k, S: "q"}
			*reach(&beside) = twoExp(impl.EMin, y, atExp("a", x))
			want := []int{impl.ScNone, impl.ScSum, impl.ScSum, impl.ScOwn, impl.ScOwn}
			if slices.Contains(named[k], field) {
				want = []int{impl.ScAsked, impl.ScTied, impl.ScTied, impl.ScTied, impl.ScOwn}
			}
			for i, l := range [][]impl.Stmt{{beside}, {sum, beside}, {beside, sum}, {beside, own}, {own, beside}} {
				wantKind(t, loopIn("i", l...), "x", want[i])
				wantKind(t, loopIn("i", append([]impl.Stmt{setStmt("y", numExp(1))}, l...)...), "x", want[i])
			}
		}
		if field != "E" {
			oddSum, oddOwn := sum, own
			*reach(&oddSum), *reach(&oddOwn) = x, x
			wantKind(t, loopIn("i", oddSum), "x", impl.ScSum)
			wantKind(t, loopIn("i", oddOwn, setStmt("z", x)), "x", impl.ScOwn)
		}
	}
	for k := -1; k <= 6; k++ {
		// A Body that no kind but one names.
		beside, want := impl.Stmt{K: k, S: "q", Body: body}, impl.ScSum
		if k == impl.SFor {
			want = impl.ScTied
		}
		wantKind(t, loopIn("i", sum, beside), "x", want)
		wantKind(t, loopIn("i", beside, sum), "x", want)
		wantCounts(t, []impl.Stmt{sum, beside}, "x", 2, 4)
		oddOwn := own
		oddOwn.Body = body
		wantKind(t, loopIn("i", oddOwn, impl.Stmt{K: k, S: "x", Body: []impl.Stmt{printStmt(x)}}), "x", map[bool]int{false: impl.ScOwn, true: impl.ScTied}[k == impl.SSet])
		if k == impl.SFor || k == impl.SSet {
			continue
		}
		wantKind(t, loopIn("i", impl.Stmt{K: k, S: "x", Body: []impl.Stmt{own}}), "x", impl.ScNone)
		want = impl.ScNone
		if slices.Contains(named[k], "E") {
			want = impl.ScAsked
		}
		wantKind(t, loopIn("i", impl.Stmt{K: k, S: "x", E: sum.E}), "x", want)
		wantKind(t, loopIn("i", impl.Stmt{K: impl.SFor, S: "j", Body: []impl.Stmt{{K: k, S: "x", Body: body, E: x}}}), "x", want)
	}
	wantKind(t, loopIn("i", impl.Stmt{K: impl.SFor, S: "j", Body: []impl.Stmt{own}}), "x", impl.ScTied)
	wantSumsAndOwns(t, loopIn("i", smudgedWith(sum, x), smudgedWith(setStmt("y", numExp(2)), y), smudgedWith(setStmt("z", twoExp(impl.EMax, varExp("z"), y)), varExp("z"))), []string{"x", "z"}, []string{"y"})
}

// Sums of each kind, of none, of one, of two, of three.
func TestKindOfOddExps(t *testing.T) {
	x, y := varExp("x"), varExp("y")
	for k := -1; k <= 10; k++ {
		looksIn := k == impl.EAt || k >= impl.EAdd && k <= impl.EMax
		for _, l := range [][]impl.Exp{nil, {x}, {x, numExp(1), numExp(1)}, {numExp(1), x}, {twoExp(impl.EAdd, x, numExp(0)), numExp(1)}, {x, atExp("a", x)}} {
			want := impl.ScOwn
			if looksIn && len(l) > 0 {
				want = impl.ScTied
			}
			wantKind(t, loopIn("i", setStmt("x", impl.Exp{K: k, L: l})), "x", want)
			wantKind(t, loopIn("i", setStmt("x", impl.Exp{K: k, N: 2, S: "y", L: l})), "x", map[bool]int{false: want, true: impl.ScOwn}[k == impl.EVar])
			if k == impl.EVar {
				wantKind(t, loopIn("i", setStmt("x", impl.Exp{K: k, S: "x", L: l})), "x", impl.ScTied)
			}
		}
		want := impl.ScOwn
		if looksIn {
			want = map[int]int{impl.EAdd: impl.ScSum, impl.EMin: impl.ScMin, impl.EMax: impl.ScMax}[k]
			if want == 0 {
				want = impl.ScTied
			}
		}
		for _, left := range []impl.Exp{x, {K: impl.EVar, S: "x", N: 5}, {K: impl.EVar, S: "x", L: []impl.Exp{y}}, {K: impl.EVar, S: "x", L: []impl.Exp{x, x}}} {
			wantKind(t, loopIn("i", setStmt("x", impl.Exp{K: k, L: []impl.Exp{left, y}})), "x", want)
			wantKind(t, loopIn("i", setStmt("x", impl.Exp{K: k, N: 3, S: "q", L: []impl.Exp{left, numExp(1)}})), "x", want)
			wantKind(t, loopIn("i", setStmt("x", impl.Exp{K: k, L: []impl.Exp{left, {K: impl.ENum, L: []impl.Exp{x}}}})), "x", want)
		}
	}
}

// P12: of a program with something in all parts that are not named each word is of the same kind.
func TestKindOfSmudgedLoops(t *testing.T) {
	m := maker{seed: 1237}
	for range 300 {
		s := parsed(t, "array a 4; for i = 0 to 3 { "+m.words([]string{"i"}, 1+m.pick(6))+"}").Body[0]
		for _, with := range []string{"i", "q", "r", "s", "t", "u", "v"} {
			odd := smudgedWith(s, varExp(with))
			for _, name := range []string{"a", "i", "j", "q", "r", "s", "t", "u", "v"} {
				wantKind(t, odd, name, impl.KindOf(s, name))
			}
			wantSumsAndOwns(t, odd, impl.Sums(s), impl.Owns(s))
		}
	}
}

func TestSumsAndOwns(t *testing.T) {
	for body, want := range map[string][2]string{
		"a[i] = x;": {"", ""}, "x = x - 1;": {"", ""}, "s = s + 1;": {"s", ""}, "t = 1;": {"", "t"},
		// In order of their names, whatever comes first.
		"z = z + 1; m = max(m, i); b = min(b, i); mm = mm + 2;": {"b m mm z", ""}, "z = 1; m = z; b = m; mm = b;": {"", "b m mm z"},
		"z = i; m = max(m, z); b = z; mm = min(mm, b); q = q * 2; a[i] = w;": {"m mm", "b z"},
		"for j = 0 to 1 { t = j; s = s + 1; } u = t; v = v + u;":             {"v", "u"},
	} {
		s := parsed(t, "array a 4; for i = 0 to 3 { "+body+" }").Body[0]
		wantSumsAndOwns(t, s, strings.Fields(want[0]), strings.Fields(want[1]))
	}
	// Any number of them, and any names.
	var sums, owns []impl.Stmt
	var names []string
	for _, first := range eightNames {
		for _, second := range eightNames {
			name := first + second
			names = append(names, name)
			sums = append(sums, setStmt(name, twoExp(impl.EMax, varExp(name), numExp(1))))
			owns = append(owns, setStmt(name+"x", varExp(name)))
		}
	}
	slices.Reverse(sums)
	wantSumsAndOwns(t, loopIn("i", sums...), names, nil)
	slices.Reverse(owns)
	all := impl.Owns(loopIn("i", owns...))
	if len(all) != len(names) || !slices.IsSorted(all) {
		t.Errorf("Owns are %q", all)
	}
	wantSumsAndOwns(t, loopIn("i", setStmt("", numExp(1)), setStmt("for", twoExp(impl.EAdd, varExp("for"), numExp(1)))), []string{"for"}, []string{""})
}

// wordUse is where a word is set or asked: in which Stmt of the loop's Body, and whether by that one itself.
type wordUse struct {
	sets bool
	top  int
	self bool
}

func wordUses(l []impl.Stmt, name string, top int) []wordUse {
	var uses []wordUse
	for i, s := range l {
		at := top
		if top < 0 {
			at = i
		}
		var ask func(e impl.Exp)
		ask = func(e impl.Exp) {
			if e.K == impl.EVar && e.S == name {
				uses = append(uses, wordUse{false, at, top < 0})
			}
			for _, part := range e.L {
				ask(part)
			}
		}
		for _, e := range []impl.Exp{s.At, s.E, s.Lo, s.Hi} {
			ask(e)
		}
		if s.K == impl.SSet && s.S == name {
			uses = append(uses, wordUse{true, at, top < 0})
		}
		uses = append(uses, wordUses(s.Body, name, at)...)
	}
	return uses
}

// kindTold is a second way, of where a word stands from the front.
func kindTold(s impl.Stmt, name string) int {
	uses := wordUses(s.Body, name, -1)
	sets := slices.DeleteFunc(slices.Clone(uses), func(u wordUse) bool { return !u.sets })
	switch {
	case len(uses) == 0:
		return impl.ScNone
	case len(sets) == 0:
		return impl.ScAsked
	case len(sets) > 1 || !sets[0].self:
		return impl.ScTied
	case uses[0].sets:
		return impl.ScOwn
	}
	e := s.Body[sets[0].top].E
	if len(uses) == 2 && uses[0].top == uses[1].top && len(e.L) == 2 && impl.SameExp(e.L[0], varExp(name)) {
		return map[int]int{impl.EAdd: impl.ScSum, impl.EMin: impl.ScMin, impl.EMax: impl.ScMax, impl.ESub: impl.ScTied, impl.EMul: impl.ScTied}[e.K]
	}
	return impl.ScTied
}

// words makes statements of few words, many of which are of one kind.
func (m *maker) words(outer []string, count int) string {
	word := func() string { return []string{"r", "s", "t", "u", "v"}[m.pick(5)] }
	sum := func() string {
		return []string{"1", "2", "a[1]", outer[0], outer[len(outer)-1], word(), word() + " + 1", "min(" + outer[0] + ", 2)"}[m.pick(8)]
	}
	var b strings.Builder
	for range count {
		switch name := word(); m.pick(9) {
		case 0, 1:
			fmt.Fprintf(&b, "%s = %s; ", name, sum())
		case 2:
			fmt.Fprintf(&b, "%s = %s + %s; ", name, name, sum())
		case 3:
			fmt.Fprintf(&b, "%s = min(%s, %s); ", name, name, sum())
		case 4:
			fmt.Fprintf(&b, "%s = max(%s, %s); ", name, name, sum())
		case 5:
			fmt.Fprintf(&b, "a[%d] = %s; ", m.pick(4), sum())
		case 6:
			fmt.Fprintf(&b, "%s = %s * 2; ", name, name)
		case 7:
			fmt.Fprintf(&b, "print %s; ", sum())
		default:
			if len(outer) < 3 {
				name := []string{"i", "j", "k"}[len(outer)]
				fmt.Fprintf(&b, "for %s = 0 to %d { %s} ", name, m.pick(3), m.words(append(slices.Clone(outer), name), 1+m.pick(2)))
			}
		}
	}
	if b.Len() == 0 {
		return "r = 1; "
	}
	return b.String()
}

// endFrom is how a loop ends, a word being this much ahead of it.
func endFrom(p impl.Prog, name string, from int) impl.Sto {
	e := numExp(max(from, 0))
	if from < 0 {
		e = twoExp(impl.ESub, numExp(0), numExp(-from))
	}
	return impl.Run(progOf(p.Arrs, setStmt(name, e), p.Body[0]), impl.MaxFuel)
}

// wantMade holds what a word comes to against its kind: where the loop begins with it, what is made of it goes on from there; where it is the round's own, nothing does; and where it is one of both, nothing else hangs on it.
func wantMade(t *testing.T, p impl.Prog, name string, kind int) {
	t.Helper()
	const most = 99999
	at := slices.Index(impl.VarsOf(p.Body), name)
	first := endFrom(p, name, 0)
	alone := map[int]int{impl.ScSum: first.V[at], impl.ScMin: endFrom(p, name, most).V[at], impl.ScMax: endFrom(p, name, -most).V[at], impl.ScOwn: first.V[at]}[kind]
	for _, from := range []int{0, 1, -1, 2, 7, -7, 100, most, -most} {
		s := endFrom(p, name, from)
		want := map[int]int{impl.ScSum: alone + from, impl.ScMin: min(alone, from), impl.ScMax: max(alone, from), impl.ScOwn: alone}[kind]
		if s.End == impl.EndGood && s.V[at] != want {
			t.Errorf("%s, %s, from %d on is %d, not %d, in %s", name, kindNames[kind], from, s.V[at], want, impl.ProgText(p))
		}
		s.V[at] = first.V[at]
		wantSto(t, s, first, name, " from ", from, " in ", impl.ProgText(p))
	}
}

// P12: each word of a loop is of one kind, that of the document's words, and does what the kind says.
func TestEachWordIsOfOneKind(t *testing.T) {
	m := maker{seed: 120}
	counts := map[string]int{}
	for range 1500 {
		p := parsed(t, "array a 4; for i = 0 to 3 { "+m.words([]string{"i"}, 1+m.pick(6))+"}")
		s := p.Body[0]
		var sums, owns []string
		for _, name := range []string{"a", "i", "j", "k", "q", "r", "s", "t", "u", "v"} {
			uses := wordUses(s.Body, name, -1)
			sets := 0
			for _, u := range uses {
				if u.sets {
					sets++
				}
			}
			wantCounts(t, s.Body, name, sets, len(uses)-sets)
			kind := kindTold(s, name)
			wantKind(t, s, name, kind)
			counts[kindNames[kind]]++
			switch kind {
			case impl.ScSum, impl.ScMin, impl.ScMax:
				sums = append(sums, name)
				wantMade(t, p, name, kind)
			case impl.ScOwn:
				owns = append(owns, name)
				wantMade(t, p, name, kind)
			}
		}
		wantSumsAndOwns(t, s, sums, owns)
	}
	for _, name := range kindNames {
		if counts[name] < 100 {
			t.Errorf("%v are too few to tell", counts)
		}
	}
}

func TestWordsOfDeepArguments(t *testing.T) {
	const depth = 100000
	deep, within := varExp("x"), setStmt("x", numExp(1))
	for range depth {
		deep, within = twoExp(impl.EAdd, deep, numExp(1)), loopIn("i", within)
	}
	wantCounts(t, []impl.Stmt{printStmt(deep)}, "x", 0, 1)
	if sets, asks := impl.Counts([]impl.Stmt{within}, "x"); sets != 1 || asks != 0 {
		t.Error("what stands deep within is not counted")
	}
	for kind, got := range map[int]int{impl.ScTied: impl.KindOf(within, "x"), impl.ScAsked: impl.KindOf(loopIn("i", printStmt(deep)), "x"), impl.ScSum: impl.KindOf(loopIn("i", setStmt("y", twoExp(impl.EAdd, varExp("y"), deep))), "y"), impl.ScOwn: impl.KindOf(loopIn("i", setStmt("y", deep)), "y"), impl.ScNone: impl.KindOf(within, "y")} {
		if got != kind {
			t.Errorf("%s, not %s", kindNames[got], kindNames[kind])
		}
	}
	if len(impl.Sums(within)) != 0 || len(impl.Owns(within)) != 0 {
		t.Error("what stands deep within is a sum or an own one")
	}
}

func TestWordsAreNew(t *testing.T) {
	p := parsed(t, "for i = 0 to 3 { t = i; s = s + t; m = max(m, t); u = t; }")
	s := p.Body[0]
	body := append(slices.Clone(s.Body), setStmt("behind", numExp(1)))
	s.Body = body[:4]
	text := func() string { return stmtText(impl.Stmt{Body: body}) + stmtText(s) }
	kept := text()
	for _, call := range []func(impl.Stmt) []string{impl.Sums, impl.Owns} {
		first, second := call(s), call(s)
		want := slices.Clone(second)
		wantOwnMemory(t, first, second)
		for i := range first {
			first[i] = "other"
		}
		_ = append(first[:1], "other")
		if len(want) != 2 || !slices.Equal(second, want) || !slices.Equal(call(s), want) {
			t.Error("an answer is kept, or shares memory")
		}
	}
	impl.Counts(body[:4], "t")
	impl.KindOf(s, "t")
	if text() != kept {
		t.Error("an argument was written into")
	}
}
