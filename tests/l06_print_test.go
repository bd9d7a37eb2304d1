package tests

import (
	"fmt"
	"slices"
	"strings"
	"testing"
	"unsafe"

	"loop.example/g00476/impl"
)

const leftSide, rightSide = 0, 1

// inBrackets has the document's words as a table: a whole, a side of it, and what stands there within brackets.
var inBrackets = [][3]int{
	{impl.EAdd, rightSide, impl.EAdd}, {impl.EAdd, rightSide, impl.ESub}, {impl.ESub, rightSide, impl.EAdd}, {impl.ESub, rightSide, impl.ESub},
	{impl.EMul, leftSide, impl.EAdd}, {impl.EMul, leftSide, impl.ESub}, {impl.EMul, rightSide, impl.EAdd}, {impl.EMul, rightSide, impl.ESub},
	{impl.EMul, rightSide, impl.EMul},
}

// toldExp is what ExpText must answer of a right expression: a form of each kind, and its parts put in.
func toldExp(e impl.Exp) string {
	forms := map[int]string{
		impl.EAt: "%s[%s]", impl.EAdd: "%s + %s", impl.ESub: "%s - %s", impl.EMul: "%s * %s", impl.EMin: "min(%s, %s)", impl.EMax: "max(%s, %s)",
	}
	parts := []any{}
	for side, part := range e.L {
		text := toldExp(part)
		if slices.Contains(inBrackets, [3]int{e.K, side, part.K}) {
			text = "(" + text + ")"
		}
		parts = append(parts, text)
	}
	switch e.K {
	case impl.ENum:
		return fmt.Sprint(e.N)
	case impl.EVar:
		return e.S
	case impl.EAt:
		parts = append([]any{e.S}, parts...)
	}
	return fmt.Sprintf(forms[e.K], parts...)
}

// toldLines is what ProgText must answer of right statements, line by line.
func toldLines(l []impl.Stmt) []string {
	var lines []string
	for _, s := range l {
		switch s.K {
		case impl.SSet:
			lines = append(lines, fmt.Sprintf("%s = %s;", s.S, toldExp(s.E)))
		case impl.SPut:
			lines = append(lines, fmt.Sprintf("%s[%s] = %s;", s.S, toldExp(s.At), toldExp(s.E)))
		case impl.SPrint:
			lines = append(lines, fmt.Sprintf("print %s;", toldExp(s.E)))
		case impl.SFor:
			lines = append(lines, fmt.Sprintf("for %s = %s to %s {", s.S, toldExp(s.Lo), toldExp(s.Hi)))
			for _, inner := range toldLines(s.Body) {
				lines = append(lines, "  "+inner)
			}
			lines = append(lines, "}")
		}
	}
	return lines
}

func toldProg(p impl.Prog) string {
	text := ""
	for _, a := range p.Arrs {
		text += fmt.Sprintf("array %s %d;\n", a.Name, a.Size)
	}
	for _, line := range toldLines(p.Body) {
		text += line + "\n"
	}
	return text
}

func wantExpText(t *testing.T, e impl.Exp, want string) {
	t.Helper()
	if got := impl.ExpText(e); got != want {
		t.Errorf("ExpText of %.300s is %q, not %q", expText(e), got, want)
	}
	wantReadAgain(t, e)
}

// wantReadAgain: what is told of a right one is read again as it is, and would not be without one of its brackets.
func wantReadAgain(t *testing.T, e impl.Exp) {
	t.Helper()
	text := impl.ExpText(e)
	if want := toldExp(e); text != want {
		t.Errorf("ExpText of %.300s is %q, not %q", expText(e), text, want)
	}
	wantParseExp(t, text, e)
	for _, less := range withoutBrackets(text) {
		if other, ok := impl.ParseExp(less); ok && expText(other) == expText(e) {
			t.Errorf("%q is the same as %q", less, text)
		}
	}
}

// withoutBrackets has the text without each pair of brackets that is no min's or max's.
func withoutBrackets(text string) []string {
	var out []string
	var open []int
	for at, sign := range text {
		switch sign {
		case '(':
			open = append(open, at)
		case ')':
			from := open[len(open)-1]
			open = open[:len(open)-1]
			if ahead := text[:from]; !strings.HasSuffix(ahead, "min") && !strings.HasSuffix(ahead, "max") {
				out = append(out, ahead+text[from+1:at]+text[at+1:])
			}
		}
	}
	return out
}

func wantProgText(t *testing.T, p impl.Prog, want string) {
	t.Helper()
	if got := impl.ProgText(p); got != want {
		t.Errorf("ProgText of %.300s is %q, not %q", progText(p), got, want)
	}
	wantProgReadAgain(t, p)
}

// wantProgReadAgain: what is told of a right one is read again as it is, and told again as it was; it tells whether the text can be read.
func wantProgReadAgain(t *testing.T, p impl.Prog) bool {
	t.Helper()
	text := impl.ProgText(p)
	if want := toldProg(p); text != want {
		t.Errorf("ProgText of %.300s is %q, not %q", progText(p), text, want)
	}
	if _, ok := lexed(text); !ok {
		wantNoParse(t, text)
		return false
	}
	wantParse(t, text, p)
	again, _ := impl.Parse(text)
	if got := impl.ProgText(again); got != text {
		t.Errorf("ProgText of what %q is read as is %q", text, got)
	}
	return true
}

func wantNoProgText(t *testing.T, p impl.Prog) {
	t.Helper()
	if got := impl.ProgText(p); got != "" {
		t.Errorf("ProgText of %.300s is %.200q", progText(p), got)
	}
}

func TestExpTextOfEachKind(t *testing.T) {
	x, one := varExp("x"), numExp(1)
	for _, c := range []struct {
		e    impl.Exp
		want string
	}{
		{numExp(0), "0"}, {numExp(7), "7"}, {numExp(10), "10"}, {numExp(999999), "999999"},
		{x, "x"}, {varExp("abcdef"), "abcdef"},
		{atExp("a", one), "a[1]"}, {atExp("a", atExp("b", x)), "a[b[x]]"}, {atExp("a", twoExp(impl.EAdd, x, one)), "a[x + 1]"},
		{twoExp(impl.EAdd, x, one), "x + 1"}, {twoExp(impl.ESub, x, one), "x - 1"}, {twoExp(impl.EMul, x, one), "x * 1"},
		{twoExp(impl.EMin, x, one), "min(x, 1)"}, {twoExp(impl.EMax, x, one), "max(x, 1)"},
		{twoExp(impl.EMin, twoExp(impl.EMax, one, x), twoExp(impl.EAdd, x, one)), "min(max(1, x), x + 1)"},
		{twoExp(impl.EMax, twoExp(impl.ESub, x, one), twoExp(impl.EMul, x, x)), "max(x - 1, x * x)"},
	} {
		wantExpText(t, c.e, c.want)
	}
}

// Each sign at the left and at the right of each: in brackets just where the document asks for them.
func TestExpTextBrackets(t *testing.T) {
	signs := map[int]string{impl.EAdd: " + ", impl.ESub: " - ", impl.EMul: " * "}
	a, b, c := varExp("a"), varExp("b"), varExp("c")
	in := func(s string, brackets bool) string {
		if brackets {
			return "(" + s + ")"
		}
		return s
	}
	for k, sign := range signs {
		for inner, innerSign := range signs {
			ab, bc := "a"+innerSign+"b", "b"+innerSign+"c"
			wantExpText(t, twoExp(k, twoExp(inner, a, b), c), in(ab, k == impl.EMul && inner != impl.EMul)+sign+"c")
			wantExpText(t, twoExp(k, a, twoExp(inner, b, c)), "a"+sign+in(bc, k == impl.EMul || inner != impl.EMul))
		}
		// What has brackets of its own needs no others.
		for _, part := range []impl.Exp{atExp("d", twoExp(impl.EAdd, a, b)), twoExp(impl.EMin, twoExp(impl.EAdd, a, b), c), twoExp(impl.EMax, c, twoExp(impl.ESub, a, b)), numExp(4)} {
			text := impl.ExpText(part)
			wantExpText(t, twoExp(k, part, c), text+sign+"c")
			wantExpText(t, twoExp(k, c, part), "c"+sign+text)
		}
	}
	for want, e := range map[string]impl.Exp{
		"a - b - c":           twoExp(impl.ESub, twoExp(impl.ESub, a, b), c),
		"a - (b - c)":         twoExp(impl.ESub, a, twoExp(impl.ESub, b, c)),
		"a + (b - c)":         twoExp(impl.EAdd, a, twoExp(impl.ESub, b, c)),
		"a - b * c":           twoExp(impl.ESub, a, twoExp(impl.EMul, b, c)),
		"a * b * c":           twoExp(impl.EMul, twoExp(impl.EMul, a, b), c),
		"a * (b * c)":         twoExp(impl.EMul, a, twoExp(impl.EMul, b, c)),
		"(a + b) * (b - c)":   twoExp(impl.EMul, twoExp(impl.EAdd, a, b), twoExp(impl.ESub, b, c)),
		"(a - (b - c)) * c":   twoExp(impl.EMul, twoExp(impl.ESub, a, twoExp(impl.ESub, b, c)), c),
		"a * (b * (c * 1))":   twoExp(impl.EMul, a, twoExp(impl.EMul, b, twoExp(impl.EMul, c, numExp(1)))),
		"a + b * c - (a + b)": twoExp(impl.ESub, twoExp(impl.EAdd, a, twoExp(impl.EMul, b, c)), twoExp(impl.EAdd, a, b)),
	} {
		wantExpText(t, e, want)
	}
}

// Of what is not right nothing is told, however small the fault within is.
func TestExpTextOfWrongOnes(t *testing.T) {
	for _, e := range append(expKinds(), twoExp(impl.EMul, atExp("a", varExp("x")), twoExp(impl.EMin, numExp(1), numExp(2)))) {
		for _, other := range otherExps(e) {
			if impl.ExpOk(other) {
				wantReadAgain(t, other)
			} else {
				wantNoExpText(t, other)
			}
		}
	}
	for _, e := range append(deepExps(9), impl.Exp{}, numExp(-1), numExp(1000000), varExp(""), varExp("for"), atExp("abcdefg", numExp(1)), expOfCount(61), deepExps(100000)[0]) {
		wantNoExpText(t, e)
	}
}

func TestExpTextIsReadAgain(t *testing.T) {
	for count := 1; count <= 60; count++ {
		wantReadAgain(t, expOfCount(count))
	}
	for depth := 1; depth <= 8; depth++ {
		for _, e := range deepExps(depth) {
			wantReadAgain(t, e)
		}
	}
	for _, left := range expKinds() {
		for _, right := range expKinds() {
			for k := impl.EAdd; k <= impl.EMax; k++ {
				for outer := impl.EAdd; outer <= impl.EMax; outer++ {
					wantReadAgain(t, twoExp(outer, twoExp(k, left, right), right))
					wantReadAgain(t, twoExp(outer, left, twoExp(k, left, right)))
					wantReadAgain(t, twoExp(outer, atExp("b", twoExp(k, left, right)), twoExp(k, right, left)))
				}
			}
		}
	}
	// The longest names and numbers at the most Exps are still read.
	wantReadAgain(t, longest(expOfCount(60)))
	for k := impl.EAdd; k <= impl.EMax; k++ {
		wantReadAgain(t, longest(twoExp(k, expOfCount(29), expOfCount(30))))
		wantReadAgain(t, longest(twoExp(k, expOfCount(58), numExp(1))))
	}
	m := maker{seed: 5, arrays: []string{"a", "abcdef"}}
	for range 4000 {
		wantReadAgain(t, m.exp(8))
	}
}

// longest has the longest names and numbers that there may be in place of all.
func longest(e impl.Exp) impl.Exp {
	e = copyExp(e)
	switch e.K {
	case impl.ENum:
		e.N = 999999
	case impl.EVar:
		e.S = "zzzzzz"
	case impl.EAt:
		e.S = "abcdef"
	}
	for i, part := range e.L {
		e.L[i] = longest(part)
	}
	return e
}

// What is just as deep as may be, or of just as many.
func TestExpTextAtTheLimits(t *testing.T) {
	chain := func(k, count int) (impl.Exp, impl.Exp) {
		atLeft, atRight := varExp("x"), varExp("x")
		for range count - 1 {
			atLeft, atRight = twoExp(k, atLeft, varExp("x")), twoExp(k, varExp("x"), atRight)
		}
		return atLeft, atRight
	}
	for k, sign := range map[int]string{impl.EAdd: " + ", impl.ESub: " - ", impl.EMul: " * "} {
		for depth := 2; depth <= 9; depth++ {
			atLeft, atRight := chain(k, depth)
			if depth == 9 {
				wantNoExpText(t, atLeft)
				wantNoExpText(t, atRight)
				continue
			}
			wantExpText(t, atLeft, "x"+strings.Repeat(sign+"x", depth-1))
			wantExpText(t, atRight, strings.Repeat("x"+sign+"(", depth-2)+"x"+sign+"x"+strings.Repeat(")", depth-2))
		}
	}
	for k, name := range map[int]string{impl.EMin: "min", impl.EMax: "max"} {
		atLeft, atRight := chain(k, 8)
		wantExpText(t, atLeft, strings.Repeat(name+"(", 7)+"x"+strings.Repeat(", x)", 7))
		wantExpText(t, atRight, strings.Repeat(name+"(x, ", 7)+"x"+strings.Repeat(")", 7))
	}
	e := numExp(10)
	for range 7 {
		e = atExp("ab", e)
	}
	wantExpText(t, e, "ab[ab[ab[ab[ab[ab[ab[10]]]]]]]")
	wantNoExpText(t, atExp("ab", e))

	// 60 Exps: 31 in the one, 28 in the other.
	full := func(k, depth int) (impl.Exp, string) {
		e, text := varExp("y"), "y"
		for range depth - 1 {
			e, text = twoExp(k, e, e), map[int]string{impl.EMin: "min(", impl.EMax: "max("}[k]+text+", "+text+")"
		}
		return e, text
	}
	e31, text31 := full(impl.EMin, 5)
	e15, text15 := full(impl.EMax, 4)
	e7, text7 := full(impl.EMin, 3)
	e28 := atExp("a", twoExp(impl.EMul, atExp("b", e15), twoExp(impl.EAdd, e7, atExp("c", numExp(0)))))
	text28 := "a[b[" + text15 + "] * (" + text7 + " + c[0])]"
	wantExpText(t, twoExp(impl.ESub, e31, e28), text31+" - "+text28)
	wantExpText(t, twoExp(impl.ESub, e28, e31), text28+" - "+text31)
	wantNoExpText(t, twoExp(impl.ESub, atExp("a", e31), e28))
	wantNoExpText(t, twoExp(impl.ESub, e28, atExp("a", e31)))
}

func wantNoExpText(t *testing.T, e impl.Exp) {
	t.Helper()
	if got := impl.ExpText(e); got != "" {
		t.Errorf("ExpText of %.300s is %.100q", expText(e), got)
	}
}

func TestExpTextIsNew(t *testing.T) {
	for _, e := range append(expKinds(), varExp("abcdef"), atExp("abcdef", varExp("zzzzzz"))) {
		if text := impl.ExpText(e); e.S != "" && unsafe.StringData(text) == unsafe.StringData(e.S) {
			t.Errorf("ExpText of %s is a part of its argument", expText(e))
		}
	}
	room := []impl.Exp{varExp("x"), numExp(2), varExp("behind")}
	kept := expText(impl.Exp{L: room})
	if got := impl.ExpText(impl.Exp{K: impl.EAdd, L: room[:2]}); got != "x + 2" || expText(impl.Exp{L: room}) != kept {
		t.Errorf("ExpText is %q, and its argument %s", got, expText(impl.Exp{L: room}))
	}
}

// maker makes right expressions and programs at random; of which arrays is told ahead.
type maker struct {
	seed   uint64
	arrays []string
}

func (m *maker) pick(n int) int {
	m.seed = m.seed*6364136223846793005 + 1442695040888963407
	return int(m.seed>>33) % n
}

func (m *maker) exp(depth int) impl.Exp {
	for {
		if e := m.anyExp(depth); impl.ExpOk(e) {
			return e
		}
	}
}

func (m *maker) anyExp(depth int) impl.Exp {
	kind := impl.ENum + m.pick(impl.EMax)
	if m.pick(3) == 0 {
		kind = impl.EAdd + m.pick(3)
	}
	switch {
	case depth > 1 && kind >= impl.EAdd:
		return twoExp(kind, m.anyExp(depth-1), m.anyExp(depth-1))
	case depth > 1 && kind == impl.EAt && len(m.arrays) > 0:
		return atExp(m.arrays[m.pick(len(m.arrays))], m.anyExp(depth-1))
	case m.pick(2) == 0:
		return numExp([]int{0, 1, 9, 10, 100, 99999, 999999}[m.pick(7)])
	}
	return varExp([]string{"x", "y", "i", "j", "k", "never", "zzzzzz"}[m.pick(7)])
}

// stmt has the loops of free at hand.
func (m *maker) stmt(free []string, depth int) impl.Stmt {
	switch kind := m.pick(8); {
	case kind < 2:
		return setStmt([]string{"x", "y", "zzzzzz", "sum"}[m.pick(4)], m.exp(depth))
	case kind < 4 && len(m.arrays) > 0:
		return putStmt(m.arrays[m.pick(len(m.arrays))], m.exp(depth), m.exp(depth))
	case kind < 5 || len(free) == 0:
		return printStmt(m.exp(depth))
	}
	s := forStmt(free[0], m.exp(depth), m.exp(depth))
	for range 1 + m.pick(4) {
		s.Body = append(s.Body, m.stmt(free[1:], depth))
	}
	return s
}

func (m *maker) prog(depth int) impl.Prog {
	for {
		m.arrays = []string{"a", "aa", "b", "cdefgh"}[:m.pick(5)]
		p := impl.Prog{}
		for _, name := range m.arrays {
			p.Arrs = append(p.Arrs, impl.Arr{Name: name, Size: 1 + m.pick(16)})
		}
		for range m.pick(9) {
			p.Body = append(p.Body, m.stmt([]string{"i", "j", "k"}, depth))
		}
		if impl.ProgOk(p) {
			return p
		}
	}
}

func TestProgTextOfNothing(t *testing.T) {
	wantProgText(t, impl.Prog{}, "")
	wantProgText(t, impl.Prog{Arrs: []impl.Arr{}, Body: []impl.Stmt{}}, "")
}

func TestProgTextOfArraysAlone(t *testing.T) {
	for size := 1; size <= 16; size++ {
		wantProgText(t, progOf([]impl.Arr{{Name: "a", Size: size}}), fmt.Sprintf("array a %d;\n", size))
	}
	wantProgText(t, progOf(arrsOf("a", "b")), "array a 4;\narray b 4;\n")
	wantProgText(t, progOf(arrsOf("a", "aa", "ab")), "array a 4;\narray aa 4;\narray ab 4;\n")
	wantProgText(t, progOf([]impl.Arr{{Name: "abcdef", Size: 16}, {Name: "b", Size: 1}, {Name: "fort", Size: 10}, {Name: "zzzzzz", Size: 9}}),
		"array abcdef 16;\narray b 1;\narray fort 10;\narray zzzzzz 9;\n")
	wantProgText(t, progOf(arrsOf("a"), printStmt(numExp(1))), "array a 4;\nprint 1;\n")
}

// Each kind of statement by itself, beside itself, and within one, two and three Bodies.
func TestProgTextOfEachStatement(t *testing.T) {
	a := arrsOf("a")
	i, x, one := varExp("i"), varExp("x"), numExp(1)
	sum, less := twoExp(impl.EAdd, x, one), twoExp(impl.ESub, x, one)
	for _, c := range []struct {
		s    impl.Stmt
		want string
	}{
		{setStmt("x", one), "x = 1;"},
		{setStmt("abcdef", numExp(999999)), "abcdef = 999999;"},
		{setStmt("x", twoExp(impl.EMul, sum, less)), "x = (x + 1) * (x - 1);"},
		{putStmt("a", one, x), "a[1] = x;"},
		{putStmt("a", sum, less), "a[x + 1] = x - 1;"},
		{putStmt("a", atExp("a", sum), twoExp(impl.ESub, x, sum)), "a[a[x + 1]] = x - (x + 1);"},
		{printStmt(x), "print x;"},
		{printStmt(twoExp(impl.EMax, sum, atExp("a", less))), "print max(x + 1, a[x - 1]);"},
		{forStmt("i", numExp(0), numExp(10), printStmt(i)), "for i = 0 to 10 {\n  print i;\n}"},
		{forStmt("i", sum, twoExp(impl.EMul, less, x), setStmt("x", i)), "for i = x + 1 to (x - 1) * x {\n  x = i;\n}"},
		{forStmt("i", i, twoExp(impl.EMin, i, x), putStmt("a", i, x), setStmt("x", i), printStmt(x)), "for i = i to min(i, x) {\n  a[i] = x;\n  x = i;\n  print x;\n}"},
	} {
		wantProgText(t, progOf(a, c.s), "array a 4;\n"+c.want+"\n")
		wantProgText(t, progOf(a, c.s, c.s), "array a 4;\n"+c.want+"\n"+c.want+"\n")
		inner := "  " + strings.ReplaceAll(c.want, "\n", "\n  ")
		wantProgText(t, progOf(a, loopIn("k", c.s)), "array a 4;\nfor k = 0 to 3 {\n"+inner+"\n}\n")
		innermost := "  " + strings.ReplaceAll(inner, "\n", "\n  ")
		wantProgText(t, progOf(a, loopIn("k", c.s, loopIn("l", c.s, c.s), c.s)),
			"array a 4;\nfor k = 0 to 3 {\n"+inner+"\n  for l = 0 to 3 {\n"+innermost+"\n"+innermost+"\n  }\n"+inner+"\n}\n")
	}
}

func TestProgTextOfStatementsAlone(t *testing.T) {
	one := numExp(1)
	wantProgText(t, progOf(nil, setStmt("x", one), printStmt(varExp("x"))), "x = 1;\nprint x;\n")
	wantProgText(t, progOf(nil, printStmt(varExp("x")), loopIn("i", setStmt("x", one)), setStmt("y", one)), "print x;\nfor i = 0 to 3 {\n  x = 1;\n}\ny = 1;\n")
	for count := 1; count <= 13; count++ {
		p := progOf(nil, slices.Repeat([]impl.Stmt{printStmt(one)}, count)...)
		if count > 12 {
			wantNoProgText(t, p)
			continue
		}
		wantProgText(t, p, strings.Repeat("print 1;\n", count))
		if count <= 6 {
			wantProgText(t, progOf(nil, loopIn("i", p.Body...)), "for i = 0 to 3 {\n"+strings.Repeat("  print 1;\n", count)+"}\n")
		}
	}
}

// Three Bodies within each other, with something ahead of and behind each.
func TestProgTextBodiesWithinBodies(t *testing.T) {
	say := func(n int) impl.Stmt { return printStmt(numExp(n)) }
	p := progOf(arrsOf("a"),
		say(1),
		loopIn("i",
			say(2),
			forStmt("j", varExp("i"), twoExp(impl.EAdd, varExp("i"), numExp(1)),
				say(3),
				forStmt("k", varExp("j"), numExp(9), putStmt("a", varExp("k"), varExp("i")), setStmt("x", varExp("k"))),
				say(4)),
			say(5),
			loopIn("k", say(6)),
			say(7)),
		say(8))
	wantProgText(t, p, `array a 4;
print 1;
for i = 0 to 3 {
  print 2;
  for j = i to i + 1 {
    print 3;
    for k = j to 9 {
      a[k] = i;
      x = k;
    }
    print 4;
  }
  print 5;
  for k = 0 to 3 {
    print 6;
  }
  print 7;
}
print 8;
`)
	wantProgText(t, progOf(nil, loopIn("i", loopIn("j", loopIn("k", say(1))))),
		"for i = 0 to 3 {\n  for j = 0 to 3 {\n    for k = 0 to 3 {\n      print 1;\n    }\n  }\n}\n")
	wantNoProgText(t, progOf(nil, loopIn("i", loopIn("j", loopIn("k", loopIn("l", say(1)))))))
	for beneath := 1; beneath <= 39; beneath++ {
		wantProgReadAgain(t, progOf(nil, loopOf(beneath)))
	}
	wantNoProgText(t, progOf(nil, loopOf(40)))
}

// Of what is not right nothing is told, however much of it is.
func TestProgTextOfWrongOnes(t *testing.T) {
	a, one := arrsOf("a"), printStmt(numExp(1))
	for _, p := range []impl.Prog{
		progOf(nil, impl.Stmt{}), progOf(a, one, impl.Stmt{}), progOf(nil, impl.Stmt{K: 5}), progOf(nil, loopIn("i")), progOf(nil, loopIn("i", impl.Stmt{})),
		progOf([]impl.Arr{{}}), progOf([]impl.Arr{{Name: "a"}}), progOf([]impl.Arr{{Name: "a", Size: 17}}), progOf([]impl.Arr{{Name: "a", Size: -1}}), progOf([]impl.Arr{{Name: "for", Size: 4}}),
		progOf(arrsOf("b", "a"), one), progOf(arrsOf("a", "a"), one), progOf(arrsOf("a", "b", "c", "d", "e"), one),
		progOf(nil, putStmt("a", numExp(0), numExp(1))), progOf(nil, printStmt(atExp("a", numExp(0)))), progOf(a, printStmt(varExp("a"))), progOf(a, setStmt("a", numExp(1))),
		progOf(a, loopIn("a", one)), progOf(nil, loopIn("i", setStmt("i", numExp(1)))), progOf(nil, loopIn("i", loopIn("i", one))), progOf(nil, loopIn("i", one), setStmt("i", numExp(1))),
		progOf(nil, setStmt("a", numExp(1)), setStmt("b", numExp(1)), setStmt("c", numExp(1)), setStmt("d", numExp(1)), setStmt("e", numExp(1)), setStmt("f", numExp(1)), setStmt("g", numExp(1))),
		progOf(nil, setStmt("print", numExp(1))), progOf(nil, printStmt(numExp(1000000))), progOf(nil, printStmt(numExp(-1))), progOf(nil, printStmt(expOfCount(61))), progOf(a, printStmt(deepExps(9)[0])),
		progOf(nil, impl.Stmt{K: impl.SPrint, S: "x", E: numExp(1)}), progOf(nil, impl.Stmt{K: impl.SPrint, E: numExp(1), At: numExp(1)}), progOf(nil, loopIn("i", slices.Repeat([]impl.Stmt{one}, 7)...)),
	} {
		wantNoProgText(t, p)
	}
	right, wrong := 0, 0
	want := func(p impl.Prog) {
		if impl.ProgOk(p) {
			right++
			wantProgReadAgain(t, p)
		} else {
			wrong++
			wantNoProgText(t, p)
		}
	}
	for _, s := range append(stmtKinds(), loopIn("k", loopIn("l", stmtKinds()...))) {
		for _, other := range otherStmts(s) {
			want(progOf(a, other))
			want(progOf(a, one, other, one))
		}
	}
	for _, p := range manyProgs() {
		want(p)
	}
	if right < 500 || wrong < 2000 {
		t.Errorf("%d right ones and %d wrong ones are too few to tell", right, wrong)
	}
}

// However deep or long an argument is, there is an answer.
func TestProgTextWithoutEnd(t *testing.T) {
	e, s := varExp("y"), printStmt(varExp("z"))
	for range 100000 {
		e, s = atExp("a", e), loopIn("i", s)
	}
	round := loopIn("i", make([]impl.Stmt, 2)...)
	round.Body[0], round.Body[1] = round, round
	ring := twoExp(impl.EAdd, impl.Exp{}, impl.Exp{})
	ring.L[0], ring.L[1] = ring, ring
	for _, p := range []impl.Prog{
		progOf(nil, s), progOf(arrsOf("a"), printStmt(e)), progOf(nil, round), progOf(nil, printStmt(ring)), progOf(nil, forStmt("i", ring, e, round)),
		progOf(slices.Repeat(arrsOf("a"), 100000)), progOf(nil, slices.Repeat([]impl.Stmt{printStmt(numExp(1))}, 100000)...),
	} {
		if got := impl.ProgText(p); got != "" {
			t.Errorf("ProgText of what is too deep or too long is %.100q", got)
		}
	}
	if got := impl.ExpText(ring); got != "" {
		t.Errorf("ExpText of what stands in itself is %.100q", got)
	}
}

// Right programs at random, of which the longest cannot be read again.
func TestProgTextIsReadAgain(t *testing.T) {
	read, unread := 0, 0
	m := maker{seed: 6}
	for i := range 3000 {
		if wantProgReadAgain(t, m.prog(1+i%6)) {
			read++
		} else {
			unread++
		}
	}
	if read < 1000 || unread < 50 {
		t.Errorf("%d that can be read and %d that cannot are too few to tell", read, unread)
	}
	for _, e := range append(expKinds(), append(deepExps(8), expOfCount(60))...) {
		wantProgReadAgain(t, progOf(arrsOf("a"), setStmt("x", e), putStmt("a", e, e), forStmt("i", e, e, printStmt(e))))
	}
}

// stmtOfSigns is a right statement of 3 to 18 signs, none of them a bracket.
func stmtOfSigns(signs int) impl.Stmt {
	sum := numExp(1)
	for range (signs-1)/2 - 1 {
		sum = twoExp(impl.EAdd, sum, varExp("x"))
	}
	if signs%2 == 1 {
		return printStmt(sum)
	}
	return setStmt("x", sum)
}

// progOfSigns is a right program the text of which has so many signs, about 600: six loops of 8 signs and what is in them, and four more statements.
func progOfSigns(signs int) impl.Prog {
	var stmts []impl.Stmt
	left := signs - 6*8
	for count := 34; count > 0; count-- {
		stmts = append(stmts, stmtOfSigns(left/count))
		left -= left / count
	}
	p := progOf(nil, stmts[30:]...)
	for at := 0; at < 30; at += 5 {
		p.Body = append(p.Body, loopIn("i", stmts[at:at+5]...))
	}
	return p
}

// A text of just MaxToks signs is read again; one of more is told as any other, and cannot be read.
func TestProgTextOfMostSigns(t *testing.T) {
	for signs := impl.MaxToks - 10; signs <= impl.MaxToks+10; signs++ {
		p := progOfSigns(signs)
		wantProg(t, true, p)
		if l, _ := lexed(impl.ProgText(p)); len(l) != signs {
			t.Fatalf("%d signs in place of %d", len(l), signs)
		}
		if wantProgReadAgain(t, p) != (signs <= impl.MaxToks) {
			t.Errorf("a text of %d signs is wrong", signs)
		}
	}
	// Far more than 3000 bytes.
	long := longest(expOfCount(60))
	p := progOf(arrsOf("abcdef"), slices.Repeat([]impl.Stmt{putStmt("abcdef", long, long)}, 12)...)
	wantProg(t, true, p)
	if wantProgReadAgain(t, p) || len(impl.ProgText(p)) <= 3000 {
		t.Errorf("ProgText is of %d bytes", len(impl.ProgText(p)))
	}
}

// Texts as a person may write them: what they are read as is told in one form, which is read as the same.
func TestTextOfWhatWasRead(t *testing.T) {
	for text, want := range map[string]string{
		"":                                       "",
		"\n ":                                    "",
		"array b 4;array a 2;x=((1));":           "array a 2;\narray b 4;\nx = 1;\n",
		"array\na\n4\n;\na[(0)]=(a[0]*2)+((1));": "array a 4;\na[0] = a[0] * 2 + 1;\n",
		"for i=0to(3){for j=(i)to i+1{print(i-(j))-(1);}}":                       "for i = 0 to 3 {\n  for j = i to i + 1 {\n    print i - j - 1;\n  }\n}\n",
		"print 1 - (2 + 3) * (4 * (5 * 6)) - (7 - 8);":                           "print 1 - (2 + 3) * (4 * (5 * 6)) - (7 - 8);\n",
		"print (1 * 2) * 3 + (4 * 5) - (6 * 7);":                                 "print 1 * 2 * 3 + 4 * 5 - 6 * 7;\n",
		"print min((1 + 2), ((max(3, (4)))));":                                   "print min(1 + 2, max(3, 4));\n",
		"print " + strings.Repeat("(", 29) + "1" + strings.Repeat(")", 29) + ";": "print 1;\n",
	} {
		p, ok := impl.Parse(text)
		if !ok {
			t.Errorf("Parse(%q) is refused", text)
		}
		wantProgText(t, p, want)
	}
	read := 0
	for _, s := range wholeTexts {
		l, _ := lexed(s)
		for _, text := range append(changedTexts(l), s, impl.TokText(l), spread(l), tight(l)) {
			if p, ok := impl.Parse(text); ok {
				read++
				if !wantProgReadAgain(t, p) {
					t.Errorf("the text of %q cannot be read", text)
				}
			}
		}
	}
	for _, s := range wholeExps {
		l, _ := lexed(s)
		for _, text := range append(changedTexts(l), s, impl.TokText(l), spread(l), tight(l)) {
			if e, ok := impl.ParseExp(text); ok {
				read++
				wantReadAgain(t, e)
			}
		}
	}
	if read < 200 {
		t.Errorf("%d can be read: too few to tell", read)
	}
}

// What was read of as many signs as may be, with no blank that need not be, is still read again.
func TestTextOfTheLongestThatWasRead(t *testing.T) {
	long := varExp("zzzzzz")
	stmts := []impl.Stmt{}
	for range 30 {
		stmts = append(stmts, printStmt(longest(stmtOfSigns(17).E)))
	}
	inner := []impl.Stmt{}
	for at := 0; at < 30; at += 6 {
		inner = append(inner, forStmt("kkkkkk", long, long, stmts[at:at+6]...))
	}
	p := progOf(nil, forStmt("iiiiii", long, long, forStmt("jjjjjj", long, long, inner...)), printStmt(longest(stmtOfSigns(17).E)), printStmt(longest(stmtOfSigns(17).E)))
	wantProg(t, true, p)
	l, _ := lexed(impl.ProgText(p))
	if !wantProgReadAgain(t, p) || len(l) < impl.MaxToks-20 {
		t.Errorf("%d signs", len(l))
	}
	again, ok := impl.Parse(tight(l))
	if !ok || impl.ProgText(again) != impl.ProgText(p) {
		t.Errorf("the text without blanks is %v", ok)
	}
}

// Nothing is written into an argument, nor behind it, and what is behind it is not told.
func TestToldIsNotWritten(t *testing.T) {
	arrRoom := append(arrsOf("a", "b"), impl.Arr{Name: "behind", Size: 3})
	expRoom := []impl.Exp{varExp("x"), atExp("b", numExp(0)), varExp("behind")}
	e := impl.Exp{K: impl.EAdd, L: expRoom[:2]}
	bodyRoom := []impl.Stmt{setStmt("z", e), putStmt("a", e, e), setStmt("behind", e)}
	loop := forStmt("i", e, e)
	loop.Body = bodyRoom[:2]
	topRoom := []impl.Stmt{loop, printStmt(e), setStmt("behind", e)}
	text := func() string {
		return progText(impl.Prog{Arrs: arrRoom, Body: topRoom}) + stmtText(impl.Stmt{Body: bodyRoom}) + expText(impl.Exp{L: expRoom})
	}
	kept := text()
	p := impl.Prog{Arrs: arrRoom[:2], Body: topRoom[:2]}
	want := "array a 4;\narray b 4;\nfor i = x + b[0] to x + b[0] {\n  z = x + b[0];\n  a[x + b[0]] = x + b[0];\n}\nprint x + b[0];\n"
	for range 2 {
		wantProgText(t, p, want)
		wantNoProgText(t, impl.Prog{Arrs: arrRoom[:1], Body: topRoom[:2]})
		if text() != kept {
			t.Fatal("an argument was written into")
		}
	}
}
