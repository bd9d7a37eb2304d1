package tests

import (
	"maps"
	"slices"
	"sort"
	"strconv"
	"strings"
	"testing"

	"loop.example/g00476/impl"
)

// What Parse and ParseExp must answer is worked out here by cutting a list of
// signs at its outermost ones, the last one first: in no way like the program.

func isTok(l []impl.Tok, at int, s string) bool {
	return 0 <= at && at < len(l) && l[at].K != impl.TkName && l[at].S == s
}

// outermost are the places where one of marks stands within no bracket.
func outermost(l []impl.Tok, marks string) []int {
	var places []int
	open := 0
	for i, tok := range l {
		if tok.K == impl.TkMark && strings.Contains("([{", tok.S) {
			if open == 0 && strings.Contains(marks, tok.S) {
				places = append(places, i)
			}
			open++
			continue
		}
		if tok.K == impl.TkMark && strings.Contains(")]}", tok.S) {
			open--
		}
		if open == 0 && tok.K == impl.TkMark && strings.Contains(marks, tok.S) {
			places = append(places, i)
		}
	}
	return places
}

func cutSum(l []impl.Tok, around int) (impl.Exp, bool) {
	if around > 29 {
		return impl.Exp{}, false
	}
	if cuts := outermost(l, "+-"); len(cuts) > 0 {
		at := cuts[len(cuts)-1]
		kind := impl.EAdd
		if l[at].S == "-" {
			kind = impl.ESub
		}
		return cutTwo(kind, l[:at], l[at+1:], around)
	}
	if cuts := outermost(l, "*"); len(cuts) > 0 {
		at := cuts[len(cuts)-1]
		return cutTwo(impl.EMul, l[:at], l[at+1:], around)
	}
	return cutAtom(l, around)
}

func cutTwo(kind int, left, right []impl.Tok, around int) (impl.Exp, bool) {
	a, okLeft := cutSum(left, around)
	b, okRight := cutSum(right, around)
	return twoExp(kind, a, b), okLeft && okRight
}

func cutAtom(l []impl.Tok, around int) (impl.Exp, bool) {
	last := len(l) - 1
	switch {
	case len(l) == 1 && l[0].K == impl.TkNum:
		return numExp(l[0].N), true
	case len(l) == 1 && l[0].K == impl.TkName:
		return varExp(l[0].S), true
	case len(l) > 2 && l[0].K == impl.TkName && isTok(l, 1, "[") && isTok(l, last, "]"):
		e, ok := cutSum(l[2:last], around+1)
		return atExp(l[0].S, e), ok
	case len(l) > 1 && isTok(l, 0, "(") && isTok(l, last, ")"):
		return cutSum(l[1:last], around+1)
	case len(l) > 2 && (isTok(l, 0, "min") || isTok(l, 0, "max")) && isTok(l, 1, "(") && isTok(l, last, ")"):
		inner := l[2:last]
		cuts := outermost(inner, ",")
		if len(cuts) != 1 {
			return impl.Exp{}, false
		}
		return cutTwo(map[string]int{"min": impl.EMin, "max": impl.EMax}[l[0].S], inner[:cuts[0]], inner[cuts[0]+1:], around+1)
	}
	return impl.Exp{}, false
}

// cutBody is of statements alone: each goes up to its `;`, or to the `}` of its `{`.
func cutBody(l []impl.Tok) ([]impl.Stmt, bool) {
	var body []impl.Stmt
	for len(l) > 0 {
		var s impl.Stmt
		end, ok := 0, false
		if isTok(l, 0, "for") {
			ends := outermost(l, "}")
			if len(ends) == 0 {
				return nil, false
			}
			end = ends[0]
			s, ok = cutLoop(l[:end])
		} else {
			end = slices.IndexFunc(l, func(tok impl.Tok) bool { return tok.S == ";" })
			if end < 0 {
				return nil, false
			}
			s, ok = cutShort(l[:end])
		}
		if !ok {
			return nil, false
		}
		body = append(body, s)
		l = l[end+1:]
	}
	return body, true
}

func cutLoop(l []impl.Tok) (impl.Stmt, bool) {
	to := slices.IndexFunc(l, func(tok impl.Tok) bool { return tok.S == "to" })
	open := slices.IndexFunc(l, func(tok impl.Tok) bool { return tok.S == "{" })
	if to < 3 || open < to || l[1].K != impl.TkName || !isTok(l, 2, "=") {
		return impl.Stmt{}, false
	}
	lo, okLo := cutSum(l[3:to], 0)
	hi, okHi := cutSum(l[to+1:open], 0)
	body, okBody := cutBody(l[open+1:])
	return forStmt(l[1].S, lo, hi, body...), okLo && okHi && okBody
}

// cutShort is of a statement without its `;`.
func cutShort(l []impl.Tok) (impl.Stmt, bool) {
	if isTok(l, 0, "print") {
		e, ok := cutSum(l[1:], 0)
		return printStmt(e), ok
	}
	is := slices.IndexFunc(l, func(tok impl.Tok) bool { return tok.S == "=" })
	if is < 1 || l[0].K != impl.TkName {
		return impl.Stmt{}, false
	}
	e, ok := cutSum(l[is+1:], 0)
	if is == 1 {
		return setStmt(l[0].S, e), ok
	}
	if is < 4 || !isTok(l, 1, "[") || !isTok(l, is-1, "]") {
		return impl.Stmt{}, false
	}
	at, okAt := cutSum(l[2:is-1], 0)
	return putStmt(l[0].S, at, e), ok && okAt
}

func cutExp(s string) (impl.Exp, bool) {
	l, ok := lexed(s)
	if !ok {
		return impl.Exp{}, false
	}
	e, ok := cutSum(l, 0)
	if !ok || !impl.ExpOk(e) {
		return impl.Exp{}, false
	}
	return e, true
}

func cutProg(s string) (impl.Prog, bool) {
	l, ok := lexed(s)
	if !ok {
		return impl.Prog{}, false
	}
	var p impl.Prog
	for len(l) >= 4 && isTok(l, 0, "array") && l[1].K == impl.TkName && l[2].K == impl.TkNum && isTok(l, 3, ";") {
		p.Arrs = append(p.Arrs, impl.Arr{Name: l[1].S, Size: l[2].N})
		l = l[4:]
	}
	sort.SliceStable(p.Arrs, func(i, j int) bool { return p.Arrs[i].Name < p.Arrs[j].Name })
	p.Body, ok = cutBody(l)
	if !ok || !impl.ProgOk(p) {
		return impl.Prog{}, false
	}
	return p, true
}

func wantParse(t *testing.T, s string, want impl.Prog) {
	t.Helper()
	got, ok := impl.Parse(s)
	if !ok || progText(got) != progText(want) {
		t.Errorf("Parse(%.300q) is %.400s, %v, not %.400s", s, progText(got), ok, progText(want))
		return
	}
	// Promise 5: what is read is right.
	wantProg(t, true, got)
	wantOwnMemory(t, got.Arrs)
	exps, bodies := listsOf([]impl.Stmt{{Body: got.Body}})
	wantOwnMemory(t, exps...)
	wantOwnMemory(t, bodies...)
}

func wantNoParse(t *testing.T, s string) {
	t.Helper()
	if p, ok := impl.Parse(s); ok || p.Arrs != nil || p.Body != nil {
		t.Errorf("Parse(%.300q) is %.300s, %v, not nothing and false", s, progText(p), ok)
	}
}

func wantParseExp(t *testing.T, s string, want impl.Exp) {
	t.Helper()
	got, ok := impl.ParseExp(s)
	if !ok || expText(got) != expText(want) {
		t.Errorf("ParseExp(%.300q) is %.400s, %v, not %.400s", s, expText(got), ok, expText(want))
		return
	}
	wantExp(t, true, got)
	exps, _ := listsOf([]impl.Stmt{printStmt(got)})
	wantOwnMemory(t, exps...)
}

func wantNoParseExp(t *testing.T, s string) {
	t.Helper()
	if e, ok := impl.ParseExp(s); ok || e.K != 0 || e.N != 0 || e.S != "" || e.L != nil {
		t.Errorf("ParseExp(%.300q) is %.300s, %v, not nothing and false", s, expText(e), ok)
	}
}

// wantAsCut holds a text against what cutting makes of it, and tells whether it can be read.
func wantAsCut(t *testing.T, s string) bool {
	t.Helper()
	p, ok := cutProg(s)
	if ok {
		wantParse(t, s, p)
	} else {
		wantNoParse(t, s)
	}
	return ok
}

func wantExpAsCut(t *testing.T, s string) bool {
	t.Helper()
	e, ok := cutExp(s)
	if ok {
		wantParseExp(t, s, e)
	} else {
		wantNoParseExp(t, s)
	}
	return ok
}

// listsOf are all lists of l and what stands beneath.
func listsOf(l []impl.Stmt) ([][]impl.Exp, [][]impl.Stmt) {
	var exps [][]impl.Exp
	var bodies [][]impl.Stmt
	var goDown func(e impl.Exp)
	goDown = func(e impl.Exp) {
		exps = append(exps, e.L)
		for _, part := range e.L {
			goDown(part)
		}
	}
	for _, s := range l {
		for _, e := range []impl.Exp{s.At, s.E, s.Lo, s.Hi} {
			goDown(e)
		}
		bodies = append(bodies, s.Body)
		innerExps, innerBodies := listsOf(s.Body)
		exps, bodies = append(exps, innerExps...), append(bodies, innerBodies...)
	}
	return exps, bodies
}

// wantOwnMemory holds the lists of one answer against each other, with the room behind them.
func wantOwnMemory[T any](t *testing.T, lists ...[]T) {
	t.Helper()
	seen := map[*T]bool{}
	for _, l := range lists {
		l = l[:cap(l)]
		for i := range l {
			if seen[&l[i]] {
				t.Error("two lists of one answer share memory")
			}
			seen[&l[i]] = true
		}
	}
}

// spread is the same text with all its signs apart, tight with as few blanks as can be.
func spread(l []impl.Tok) string { return strings.ReplaceAll(impl.TokText(l), " ", "\n  ") }

func tight(l []impl.Tok) string {
	var b strings.Builder
	for i, tok := range l {
		letters := tok.K == impl.TkName || tok.K == impl.TkKept
		if i > 0 && (letters && (l[i-1].K == impl.TkName || l[i-1].K == impl.TkKept) || tok.K == impl.TkNum && l[i-1].K == impl.TkNum) {
			b.WriteByte(' ')
		}
		b.WriteString(impl.TokText([]impl.Tok{tok}))
	}
	return b.String()
}

func TestParseOfNothing(t *testing.T) {
	for _, s := range []string{"", " ", "\n", "  \n\n ", strings.Repeat(" ", 3000)} {
		wantParse(t, s, impl.Prog{})
		wantNoParseExp(t, s)
	}
	wantNoParse(t, strings.Repeat(" ", 3001))
}

func TestParseArraysAlone(t *testing.T) {
	wantParse(t, "array a 4;", progOf([]impl.Arr{{Name: "a", Size: 4}}))
	wantParse(t, "array\nabcdef\n16\n;", progOf([]impl.Arr{{Name: "abcdef", Size: 16}}))
	wantParse(t, "array a1;array b16;", progOf([]impl.Arr{{Name: "a", Size: 1}, {Name: "b", Size: 16}}))
	for size := range 20 {
		s := "array a " + strconv.Itoa(size) + ";"
		if 1 <= size && size <= 16 {
			wantParse(t, s, progOf([]impl.Arr{{Name: "a", Size: size}}))
		} else {
			wantNoParse(t, s)
		}
	}
	for _, s := range []string{
		"array", "array a", "array a 4", "array 4;", "array a;", "array ;", "array 4 a;", "array a 4;;", "array a 4 ; ;", "; array a 4;", "array a 4 4;", "array a b 4;",
		"array a b;", "array a -4;", "array a 04;", "array a (4);", "array a [4];", "array a[4];", "array a = 4;", "array a 2 + 2;", "array a 4, b 4;", "array a 4 array b 4;", "array a 4 b 4;",
		"array array 4;", "array for 4;", "array to 4;", "array print 4;", "array min 4;", "array max 4;", "array abcdefg 4;", "array A 4;",
		"array a 999999;", "array a 1000000;", "array a 4294967297;", "a 4;", "{ array a 4; }", "array array a 4;",
	} {
		wantNoParse(t, s)
	}
}

// However the arrays are told, they stand in order; two of one name are wrong wherever they stand.
func TestParseArraysInOrder(t *testing.T) {
	sizes := map[string]int{"a": 3, "aa": 16, "b": 1, "z": 9}
	names := []string{"a", "aa", "b", "z"}
	right := 0
	var goOn func(text string, told []string)
	goOn = func(text string, told []string) {
		sorted := slices.Sorted(slices.Values(told))
		if len(slices.Compact(slices.Clone(sorted))) < len(told) {
			wantNoParse(t, text)
			wantNoParse(t, text+"print 1;")
		} else {
			right++
			var arrs []impl.Arr
			for _, name := range sorted {
				arrs = append(arrs, impl.Arr{Name: name, Size: sizes[name]})
			}
			wantParse(t, text, progOf(arrs))
			wantParse(t, text+"print 1;", progOf(arrs, printStmt(numExp(1))))
		}
		if len(told) == 4 {
			return
		}
		for _, name := range names {
			goOn(text+"array "+name+" "+strconv.Itoa(sizes[name])+"; ", append(slices.Clone(told), name))
		}
	}
	goOn("", nil)
	if right != 1+4+12+24+24 {
		t.Errorf("%d were right", right)
	}
	wantNoParse(t, "array a 2; array a 3;")
	wantNoParse(t, "array a 2; array b 2; array a 2;")
	wantParse(t, "array d 1; array c 2; array b 3; array a 4;", progOf([]impl.Arr{{Name: "a", Size: 4}, {Name: "b", Size: 3}, {Name: "c", Size: 2}, {Name: "d", Size: 1}}))
	wantNoParse(t, "array e 1; array d 1; array c 2; array b 3; array a 4;")
}

func TestParseEachStatement(t *testing.T) {
	a := arrsOf("a")
	i, x, one := varExp("i"), varExp("x"), numExp(1)
	for _, c := range []struct {
		text string
		want impl.Stmt
	}{
		{"x = 1;", setStmt("x", one)},
		{"x=x+1;", setStmt("x", twoExp(impl.EAdd, x, one))},
		{"x = a[x];", setStmt("x", atExp("a", x))},
		{"a[1] = x;", putStmt("a", one, x)},
		{"a[x - 1] = a[a[x]] * 2;", putStmt("a", twoExp(impl.ESub, x, one), twoExp(impl.EMul, atExp("a", atExp("a", x)), numExp(2)))},
		{"a[(1)] = (x);", putStmt("a", one, x)},
		{"print x;", printStmt(x)},
		{"print (x);", printStmt(x)},
		{"print min(x, 1);", printStmt(twoExp(impl.EMin, x, one))},
		{"for i = 0 to 3 { print i; }", forStmt("i", numExp(0), numExp(3), printStmt(i))},
		{"for i=x to a[1]{x=i;}", forStmt("i", x, atExp("a", one), setStmt("x", i))},
		{"for i = 1 - x to (1) { a[i] = 1; print x; x = 1; }", forStmt("i", twoExp(impl.ESub, one, x), one, putStmt("a", i, one), printStmt(x), setStmt("x", one))},
		{"for i = i to i { print i; }", forStmt("i", i, i, printStmt(i))},
		{"for i=0to1{print 1;}", forStmt("i", numExp(0), one, printStmt(one))},
	} {
		for _, text := range []string{c.text, " \n" + c.text + "\n"} {
			wantParse(t, "array a 4; "+text, progOf(a, c.want))
			wantParse(t, "array a 4;"+text+text, progOf(a, c.want, c.want))
			wantParse(t, "array a 4; print 1;"+text+"x = 1;", progOf(a, printStmt(one), c.want, setStmt("x", one)))
			wantParse(t, "array a 4; for k = 0 to 3 { "+text+" }", progOf(a, loopIn("k", c.want)))
			wantParse(t, "array a 4; for k = 0 to 3 { "+text+" for l = 0 to 3 { "+text+" }"+text+" }", progOf(a, loopIn("k", c.want, loopIn("l", c.want), c.want)))
		}
	}
}

func TestParseStatementsAlone(t *testing.T) {
	one := numExp(1)
	wantParse(t, "x = 1; print x;", progOf(nil, setStmt("x", one), printStmt(varExp("x"))))
	for count := 1; count <= 14; count++ {
		text := strings.Repeat("print 1; ", count)
		if count <= 12 {
			wantParse(t, text, progOf(nil, slices.Repeat([]impl.Stmt{printStmt(one)}, count)...))
		} else {
			wantNoParse(t, text)
		}
		loop := "for i = 0 to 3 { " + text + "}"
		if count <= 6 {
			wantParse(t, loop, progOf(nil, loopIn("i", slices.Repeat([]impl.Stmt{printStmt(one)}, count)...)))
		} else {
			wantNoParse(t, loop)
		}
	}
}

func TestParseBodiesWithinBodies(t *testing.T) {
	one := printStmt(numExp(1))
	text, want := "print 1;", one
	for depth, name := range []string{"i", "j", "k", "l", "m"} {
		text, want = "for "+name+" = 0 to 3 { "+text+" }", loopIn(name, want)
		if depth < 3 {
			wantParse(t, text, progOf(nil, want))
			wantParse(t, text+"print 1;"+text, progOf(nil, want, one, want))
		} else {
			wantNoParse(t, text)
		}
	}
	wantParse(t, "for i = 0 to 3 { for j = 0 to 3 { print 1; for k = 0 to 3 { print 1; } } print 1; for k = 0 to 3 { print 1; print 1; } } for j = 0 to 3 { print 1; }",
		progOf(nil, loopIn("i", loopIn("j", one, loopIn("k", one)), one, loopIn("k", one, one)), loopIn("j", one)))
	// Many more than there may be, of which there are still no more than so many signs.
	wantNoParse(t, strings.Repeat("for i=0to1{", 74)+strings.Repeat("}", 74))
	wantNoParse(t, strings.Repeat("for i=0to1{", 74))
}

func TestParseExpAtoms(t *testing.T) {
	x, one := varExp("x"), numExp(1)
	for _, n := range []int{0, 1, 9, 10, 99999, 999998, 999999} {
		wantParseExp(t, strconv.Itoa(n), numExp(n))
	}
	for _, name := range rightNames {
		wantParseExp(t, name, varExp(name))
		wantParseExp(t, name+"[1]", atExp(name, one))
	}
	for _, name := range wrongNames {
		// A blank ahead, and a number by itself, are no fault here.
		wantExpAsCut(t, name)
		if name != " a" {
			wantNoParseExp(t, name+"[1]")
		}
	}
	for s, want := range map[string]impl.Exp{
		"a[x]": atExp("a", x), "a [ x ]": atExp("a", x), "a[x + 1]": atExp("a", twoExp(impl.EAdd, x, one)), "a[b[x]]": atExp("a", atExp("b", x)), "a[a[a[x]]]": atExp("a", atExp("a", atExp("a", x))),
		"a[b[x] + c[1]]": atExp("a", twoExp(impl.EAdd, atExp("b", x), atExp("c", one))),
		"(x)":            x, "((x))": x, "( ( ( 1 ) ) )": one, "(a[(x)])": atExp("a", x), "(a)": varExp("a"),
		"min(x, 1)": twoExp(impl.EMin, x, one), "max(x, 1)": twoExp(impl.EMax, x, one), "min(1,x)": twoExp(impl.EMin, one, x), "max ( 1 , x )": twoExp(impl.EMax, one, x),
		"min(min(x, 1), max(1, x))": twoExp(impl.EMin, twoExp(impl.EMin, x, one), twoExp(impl.EMax, one, x)),
		"max(x, min((1), a[x]))":    twoExp(impl.EMax, x, twoExp(impl.EMin, one, atExp("a", x))),
		"min(x + 1, x * 1)":         twoExp(impl.EMin, twoExp(impl.EAdd, x, one), twoExp(impl.EMul, x, one)),
		"a[min(x, 1)]":              atExp("a", twoExp(impl.EMin, x, one)),
		"min(x, 1) - max(1, x)":     twoExp(impl.ESub, twoExp(impl.EMin, x, one), twoExp(impl.EMax, one, x)),
		"(x + 1)":                   twoExp(impl.EAdd, x, one), "((x) + (1))": twoExp(impl.EAdd, x, one),
		"((x + 1) * 1)": twoExp(impl.EMul, twoExp(impl.EAdd, x, one), one), "(x + (1 * 1))": twoExp(impl.EAdd, x, twoExp(impl.EMul, one, one)),
	} {
		wantParseExp(t, s, want)
		wantParseExp(t, "\n "+s+" \n", want)
		wantParseExp(t, "("+s+")", want)
		wantParseExp(t, "b["+s+"]", atExp("b", want))
		wantParseExp(t, "max("+s+", "+s+")", twoExp(impl.EMax, want, want))
		wantParseExp(t, "2 - ("+s+")", twoExp(impl.ESub, numExp(2), want))
		wantParseExp(t, "("+s+") * 2", twoExp(impl.EMul, want, numExp(2)))
	}
}

// grouped makes of parts and the signs between them what is meant, by the rule alone: `*` first, then from the left.
func grouped(parts []impl.Exp, signs []int) impl.Exp {
	parts, signs = slices.Clone(parts), slices.Clone(signs)
	for _, close := range []bool{true, false} {
		for i := 0; i < len(signs); {
			if close && signs[i] != impl.EMul {
				i++
				continue
			}
			parts[i] = twoExp(signs[i], parts[i], parts[i+1])
			parts, signs = slices.Delete(parts, i+1, i+2), slices.Delete(signs, i, i+1)
		}
	}
	return parts[0]
}

func TestParseExpGroups(t *testing.T) {
	a, b, c, d := varExp("a"), varExp("b"), varExp("c"), varExp("d")
	for s, want := range map[string]impl.Exp{
		"a - b - c":           twoExp(impl.ESub, twoExp(impl.ESub, a, b), c),
		"a - (b - c)":         twoExp(impl.ESub, a, twoExp(impl.ESub, b, c)),
		"a + b - c":           twoExp(impl.ESub, twoExp(impl.EAdd, a, b), c),
		"a - b + c":           twoExp(impl.EAdd, twoExp(impl.ESub, a, b), c),
		"a * b * c":           twoExp(impl.EMul, twoExp(impl.EMul, a, b), c),
		"a * (b * c)":         twoExp(impl.EMul, a, twoExp(impl.EMul, b, c)),
		"a + b * c":           twoExp(impl.EAdd, a, twoExp(impl.EMul, b, c)),
		"(a + b) * c":         twoExp(impl.EMul, twoExp(impl.EAdd, a, b), c),
		"a * b + c":           twoExp(impl.EAdd, twoExp(impl.EMul, a, b), c),
		"a * (b + c)":         twoExp(impl.EMul, a, twoExp(impl.EAdd, b, c)),
		"a * b - c * d":       twoExp(impl.ESub, twoExp(impl.EMul, a, b), twoExp(impl.EMul, c, d)),
		"a - b * c * d":       twoExp(impl.ESub, a, twoExp(impl.EMul, twoExp(impl.EMul, b, c), d)),
		"(a - b) - (c - d)":   twoExp(impl.ESub, twoExp(impl.ESub, a, b), twoExp(impl.ESub, c, d)),
		"a - (b - (c - d))":   twoExp(impl.ESub, a, twoExp(impl.ESub, b, twoExp(impl.ESub, c, d))),
		"((a - b) - c) - d":   twoExp(impl.ESub, twoExp(impl.ESub, twoExp(impl.ESub, a, b), c), d),
		"(a + b) * (c - d)":   twoExp(impl.EMul, twoExp(impl.EAdd, a, b), twoExp(impl.ESub, c, d)),
		"((a + b) * c) * (d)": twoExp(impl.EMul, twoExp(impl.EMul, twoExp(impl.EAdd, a, b), c), d),
	} {
		wantParseExp(t, s, want)
	}
	marks := map[int]string{impl.EAdd: "+", impl.ESub: "-", impl.EMul: "*"}
	parts := map[string]impl.Exp{"a": a, "7": numExp(7), "b[c]": atExp("b", c), "(d)": d, "min(a, 1)": twoExp(impl.EMin, a, numExp(1)), "(a - c)": twoExp(impl.ESub, a, c)}
	texts := slices.Sorted(maps.Keys(parts))
	for shift := range texts {
		for code := range 3 * 3 * 3 * 3 {
			text := texts[shift]
			exps, signs := []impl.Exp{parts[text]}, []int{}
			for k, rest := 1, code; k <= 4; k, rest = k+1, rest/3 {
				sign, next := impl.EAdd+rest%3, texts[(shift+k)%len(texts)]
				text += []string{" ", ""}[code%2] + marks[sign] + []string{" ", "\n"}[k%2] + next
				exps, signs = append(exps, parts[next]), append(signs, sign)
				wantParseExp(t, text, grouped(exps, signs))
				wantParse(t, "array b 4; print "+text+";", progOf(arrsOf("b"), printStmt(grouped(exps, signs))))
			}
		}
	}
}

// sumWays are the ways in which a sum stands in one other, and what they make of it.
var sumWays = []struct {
	ahead, behind string
	around        func(e impl.Exp) impl.Exp
}{
	{"(", ")", func(e impl.Exp) impl.Exp { return e }},
	{"a[", "]", func(e impl.Exp) impl.Exp { return atExp("a", e) }},
	{"min(", ", 1)", func(e impl.Exp) impl.Exp { return twoExp(impl.EMin, e, numExp(1)) }},
	{"max(2, ", ")", func(e impl.Exp) impl.Exp { return twoExp(impl.EMax, numExp(2), e) }},
}

// wantSumAround reads "x" with the ways around it, the innermost first, as a sum, and in each place of a statement.
func wantSumAround(t *testing.T, ways []int) {
	t.Helper()
	text, want := "x", varExp("x")
	for _, way := range ways {
		text, want = sumWays[way].ahead+text+sumWays[way].behind, sumWays[way].around(want)
	}
	stmts := map[string]impl.Stmt{
		"x = " + text + ";": setStmt("x", want), "print " + text + ";": printStmt(want),
		"a[" + text + "] = 1;": putStmt("a", want, numExp(1)), "a[1] = " + text + ";": putStmt("a", numExp(1), want),
		"for i = " + text + " to 1 { print 1; }": forStmt("i", want, numExp(1), printStmt(numExp(1))),
		"for i = 1 to " + text + " { print 1; }": forStmt("i", numExp(1), want, printStmt(numExp(1))),
		"for i = 0 to 3 { x = " + text + "; }":   loopIn("i", setStmt("x", want)),
	}
	if len(ways) > 29 || !impl.ExpOk(want) {
		wantNoParseExp(t, text)
		for s := range stmts {
			wantNoParse(t, "array a 4; "+s)
		}
		return
	}
	wantParseExp(t, text, want)
	for s, stmt := range stmts {
		wantParse(t, "array a 4; "+s, progOf(arrsOf("a"), stmt))
	}
}

func TestSumsInSums(t *testing.T) {
	for way := range sumWays {
		for count := range 64 {
			wantSumAround(t, slices.Repeat([]int{way}, count))
			// So many, and brackets around all, inside all, and one between every two, which add up to 28, 29, 30 and 31.
			for all := 28; all <= 31 && count <= all; all++ {
				brackets := make([]int, all-count)
				wantSumAround(t, append(slices.Clone(brackets), slices.Repeat([]int{way}, count)...))
				wantSumAround(t, append(slices.Repeat([]int{way}, count), brackets...))
				var between []int
				for k := range max(count, len(brackets)) {
					if k < count {
						between = append(between, way)
					}
					if k < len(brackets) {
						between = append(between, 0)
					}
				}
				wantSumAround(t, between)
			}
		}
	}
	// Mixed: seven that ExpOk counts, at each place among brackets.
	for all := 28; all <= 31; all++ {
		for shift := range all - 7 {
			ways := make([]int, all)
			for k := range 7 {
				ways[shift+k] = 1 + (k+shift)%3
			}
			wantSumAround(t, ways)
			ways[len(ways)-1-shift%3], ways[shift] = ways[shift], ways[len(ways)-1-shift%3]
			wantSumAround(t, ways)
		}
	}
}

func TestSumsInSumsAtTheLimit(t *testing.T) {
	in := func(count int, s string) string { return strings.Repeat("(", count) + s + strings.Repeat(")", count) }
	x := varExp("x")
	wantParseExp(t, in(29, "x"), x)
	wantNoParseExp(t, in(30, "x"))
	wantParseExp(t, in(29, "x * 2 - x"), twoExp(impl.ESub, twoExp(impl.EMul, x, numExp(2)), x))
	wantNoParseExp(t, in(30, "x * 2 - x"))
	// How deep one stands says nothing of those beside it.
	wantParseExp(t, in(29, "x")+"+"+in(29, "x"), twoExp(impl.EAdd, x, x))
	wantParseExp(t, in(29, "x")+"*"+in(29, "x")+"-"+in(29, "x"), twoExp(impl.ESub, twoExp(impl.EMul, x, x), x))
	wantNoParseExp(t, in(29, "x")+"+"+in(30, "x"))
	wantNoParseExp(t, in(30, "x")+"+"+in(29, "x"))
	wantParseExp(t, "min("+in(28, "x")+","+in(28, "x")+")", twoExp(impl.EMin, x, x))
	wantNoParseExp(t, "min("+in(28, "x")+","+in(29, "x")+")")
	wantNoParseExp(t, "max("+in(29, "x")+","+in(28, "x")+")")
	wantParseExp(t, "a["+in(28, "x")+"]", atExp("a", x))
	wantNoParseExp(t, "a["+in(29, "x")+"]")
	wantParseExp(t, in(28, "a[x]"), atExp("a", x))
	wantNoParseExp(t, in(29, "a[x]"))
	wantParseExp(t, in(14, "a["+in(14, "x")+"]"), atExp("a", x))
	wantNoParseExp(t, in(14, "a["+in(15, "x")+"]"))
	// The place of what is put stands in no sum.
	wantParse(t, "array a 4; a["+in(29, "1")+"] = "+in(29, "2")+";", progOf(arrsOf("a"), putStmt("a", numExp(1), numExp(2))))
	wantNoParse(t, "array a 4; a["+in(30, "1")+"] = 2;")
	wantNoParse(t, "array a 4; a[1] = "+in(30, "2")+";")
	for _, count := range []int{100, 299, 300, 600, 1499, 5000} {
		wantNoParseExp(t, in(count, "x"))
		wantNoParseExp(t, strings.Repeat("(", count))
		wantNoParseExp(t, strings.Repeat(")", count))
		wantNoParseExp(t, strings.Repeat("a[", count))
		wantNoParseExp(t, strings.Repeat("min(", count))
		wantNoParse(t, strings.Repeat("a[", count))
		wantNoParse(t, "print "+in(count, "x")+";")
	}
}

func TestParseExpWrong(t *testing.T) {
	for _, s := range []string{
		"1 +", "+ 1", "+", "-", "*", "-1", "- x", "1 + + 1", "1 - - 1", "1 * * 1", "1 + * 1", "1 * - 1", "1 * (+ 1)", "(1 +) 1",
		"1 2", "x y", "x 1", "1 x", "1x", "x1", "a[1] 2", "a[1][2]", "1[2]", "(a)[1]", "a(1)", "(1)(2)", "(1) 2", "2 (1)",
		"a[", "a[1", "a]", "a[]", "a[1]]", "a[[1]]", "[1]", "[]", "a[1)", "a(1]", "a[1, 2]", "a[1;]",
		"(", ")", "()", "(1", "1)", "((1)", "(1))", "(1]", "[1)", "{1}", "(1, 2)", "(,)", "1, 2", ",",
		"min", "max", "min(", "min()", "min(1", "min(1)", "min(1,", "min(1,)", "min(,1)", "min(,)", "min(1, 2", "min(1 2)", "min(1; 2)", "min(1, 2))", "min((1, 2)", "min((1, 2))", "min(1, 2, 3)", "min 1, 2", "min 1 2", "min[1, 2]", "min{1, 2}", "min(1, 2]", "minmax(1, 2)", "min max(1, 2)", "mi(1, 2)", "MIN(1, 2)",
		"max(", "max()", "max(1)", "max(1,)", "max(,1)", "max(1 2)", "max(1, 2, 3)", "max[1]", "min + 1", "1 + max", "min = 1",
		"for", "to", "print", "array", "print 1", "array[1]", "for[1]", "to[1]", "print[1]", "for + 1", "1 + to",
		"1;", "x;", "x = 1", "= 1", "1 =", "x = 1;", "a ; b", "print 1;", "for i = 0 to 1 { print 1; }", "array a 4;", "array a 4; 1", "{}", ";",
		"$", "1 $ 2", "A", "x + A", "abcdefg", "1000000", "1 + 1000000", "00", "01", "x + 01", "\xff", "1\t+ 1", "1.5", "é", "x + y # z",
	} {
		wantNoParseExp(t, s)
		wantNoParseExp(t, "("+s+")")
		wantNoParseExp(t, "a["+s+"]")
		wantNoParse(t, "print "+s+";")
		wantExpAsCut(t, s)
	}
}

func TestParseWrong(t *testing.T) {
	for _, s := range []string{
		"x", "x =", "x = ", "x = 1", "x 1;", "= 1;", "x == 1;", "x = = 1;", "x = 1;;", ";", ";;", "; x = 1;", "x = ;", "x = y = 1;", "x = 1, 2;", "x, y = 1;", "x = 1 y = 2;", "x = (1;", "x = 1);", "(x) = 1;", "(x = 1);", "1 = x;", "x + 1 = 2;", "x;", "1;", "x = 1 + ;", "x := 1;", "x = print;",
		"a", "a[", "a[0", "a[0]", "a[0] =", "a[0] = 1", "a[0];", "a[] = 1;", "a[0 = 1;", "a 0] = 1;", "a[0]] = 1;", "a[[0]] = 1;", "a[0] 1;", "a[0] == 1;", "a[0][0] = 1;", "a(0) = 1;", "a[0) = 1;", "a[0, 1] = 1;", "a[0;] = 1;", "a[0] = ;", "a[0] = 1, 2;", "(a[0]) = 1;", "a[0] + 1 = 1;", "a[a] = 1;",
		"print", "print;", "print 1", "print 1, 2;", "print 1 2;", "print = 1;", "print x = 1;", "print(1;", "print 1);", "print print 1;", "print ();", "printx;", "print 1;;", "print { 1; }",
		"for", "for i", "for i =", "for i = 0", "for i = 0 to", "for i = 0 to 1", "for i = 0 to 1 {", "for i = 0 to 1 { print 1;", "for i = 0 to 1 { print 1", "for i = 0 to 1 }",
		"for i = 0 to 1 { }", "for i = 0 to 1 {}", "for i = 0 to 1 { ; }", "for i = 0 to 1 ;", "for i = 0 to 1 print 1;", "for i = 0 to 1 ( print 1; )", "for i = 0 to 1 { print 1 }", "for i = 0 to 1 { print 1; };", "for i = 0 to 1 { print 1; } }", "for i = 0 to 1 { { print 1; } }", "for i = 0 to 1 {{ print 1; }}",
		"for i 0 to 1 { print 1; }", "for i = to 1 { print 1; }", "for i = 0 1 { print 1; }", "for i = 0 { print 1; }", "for i = 0, 1 { print 1; }", "for i = 0 to { print 1; }", "for = 0 to 1 { print 1; }", "for 0 = 0 to 1 { print 1; }", "for i = 0 to 1 to 2 { print 1; }", "for i == 0 to 1 { print 1; }", "for (i = 0 to 1) { print 1; }", "for i = 0 = 1 to 1 { print 1; }", "for a[0] = 0 to 1 { print 1; }", "for i[0] = 0 to 1 { print 1; }", "for i, j = 0 to 1 { print 1; }", "for i = 0 to 1; { print 1; }", "i = 0 to 1 { print 1; }", "for for i = 0 to 1 { print 1; }", "for i = (0 to 1) { print 1; }",
		"for i = 0 to 1 { for j = 0 to 1 { } }", "for i = 0 to 1 { for j = 0 to 1 { print 1; }", "for i = 0 to 1 { print 1; for j = 0 to 1 { } print 1; }", "for i = 0 to 1 { array b 2; }", "for i = 0 to 1 { array b 2; print 1; }",
		"{ x = 1; }", "{ }", "{}", "{", "}", "x = 1; }", "x = 1; {", "x = 1; )", "x = 1; 2", "x = 1; y", "x = 1; $", "x = 1; A = 1;", "1", "x + 1", "to", "min", "max(1, 2);", "min(1, 2) = 1;", "to = 1;",
	} {
		wantNoParse(t, s)
		wantNoParse(t, "array a 4; "+s)
		wantNoParse(t, "array a 4; print 1; "+s)
		wantAsCut(t, s)
		wantAsCut(t, "array a 4; "+s)
		wantAsCut(t, "array a 4; "+s+" print 1;")
	}
}

// An array behind a statement, or within a Body, is wrong.
func TestParseArraysComeFirst(t *testing.T) {
	for _, stmt := range []string{"x = 1;", "print 1;", "b[0] = 1;", "for i = 0 to 1 { print 1; }"} {
		wantAsCut(t, "array b 2; "+stmt)
		wantNoParse(t, "array b 2; "+stmt+" array a 2;")
		wantNoParse(t, "array b 2; "+stmt+" array a 2; "+stmt)
		wantNoParse(t, "array b 2; "+stmt+" array b 2;")
		wantNoParse(t, stmt+" array b 2;")
		wantNoParse(t, "array b 2; for k = 0 to 1 { array a 2; "+stmt+" }")
		wantNoParse(t, "array b 2; for k = 0 to 1 { "+stmt+" array a 2; }")
	}
}

// A kept word in each place where a name must stand.
func TestParseKeptWords(t *testing.T) {
	forms := []string{
		"array q 4;", "q = 1;", "x = q;", "array q 4; q[0] = 1;", "array q 4; x = q[0];", "for q = 0 to 1 { print 1; }", "for i = q to 1 { print 1; }", "for i = 0 to q { print 1; }",
		"print q;", "print min(q, 1);", "print max(1, q);", "print (q);", "array a 4; print a[q];", "array a 4; a[q] = 1;", "array a 4; a[0] = q;", "print 1 + q;", "print 1 - q;", "print q * 2;", "for i = 0 to 1 { x = q; }",
	}
	for _, form := range forms {
		if !wantAsCut(t, form) {
			t.Errorf("%q is wrong for this", form)
		}
		for _, word := range []string{"array", "for", "to", "print", "min", "max"} {
			wantNoParse(t, strings.ReplaceAll(form, "q", word))
		}
		for _, word := range []string{"abcdefg", "Q", "q_", "7q", ""} {
			wantNoParse(t, strings.ReplaceAll(form, "q", word))
		}
	}
	for _, form := range []string{"q", "q + 1", "1 * q", "q[1]", "a[q]", "min(q, 1)", "max(1, q)", "(q)"} {
		wantExpAsCut(t, form)
		for _, word := range []string{"array", "for", "to", "print", "min", "max"} {
			wantNoParseExp(t, strings.ReplaceAll(form, "q", word))
		}
	}
}

// What can be read and is not right.
func TestParseNotRight(t *testing.T) {
	long := func(count int, each string) string { return strings.Repeat(each, count) }
	six := "for i = 0 to 1 { " + long(6, "x = 1; ") + "}"
	for _, c := range []struct {
		right, wrong string
	}{
		{"array a 1;", "array a 0;"},
		{"array a 16;", "array a 17;"},
		{"array a 4; array b 4; array c 4; array d 4;", "array a 4; array b 4; array c 4; array d 4; array e 4;"},
		{"array a 4; x = 1;", "array a 4; a = 1;"},
		{"array a 4; x = y;", "array a 4; x = a;"},
		{"array a 4; x = a[y];", "array a 4; x = a[a];"},
		{"array a 4; for i = 0 to 1 { print i; }", "array a 4; for a = 0 to 1 { print i; }"},
		{"array a 4; a[0] = 1;", "array b 4; a[0] = 1;"},
		{"array a 4; print a[0];", "print a[0];"},
		{"for i = 0 to 1 { x = 1; }", "for i = 0 to 1 { i = 1; }"},
		{"for i = 0 to 1 { print 1; } x = 1;", "for i = 0 to 1 { print 1; } i = 1;"},
		{"x = 1; for i = 0 to 1 { print 1; }", "i = 1; for i = 0 to 1 { print 1; }"},
		{"for i = 0 to 1 { for j = 0 to 1 { print 1; } }", "for i = 0 to 1 { for i = 0 to 1 { print 1; } }"},
		{"for i = 0 to 1 { print 1; }", "for i = 0 to 1 { }"},
		{long(12, "x = 1; "), long(13, "x = 1; ")},
		{six, "for i = 0 to 1 { " + long(7, "x = 1; ") + "}"},
		{long(5, six) + long(5, "x = 1; "), long(5, six) + long(6, "x = 1; ")},
		{"a = 1; b = 1; c = 1; d = 1; e = 1; f = 1;", "a = 1; b = 1; c = 1; d = 1; e = 1; f = 1; g = 1;"},
		{"print " + long(7, "1 + ") + "1;", "print " + long(8, "1 + ") + "1;"},
		{"print " + long(7, "1 - (") + "1" + long(7, ")") + ";", "print " + long(8, "1 - (") + "1" + long(8, ")") + ";"},
		{"array a 4; print " + long(7, "a[") + "1" + long(7, "]") + ";", "array a 4; print " + long(8, "a[") + "1" + long(8, "]") + ";"},
	} {
		if !wantAsCut(t, c.right) {
			t.Errorf("%q is not right", c.right)
		}
		wantNoParse(t, c.wrong)
		wantAsCut(t, c.wrong)
		// What was refused leaves nothing behind.
		wantAsCut(t, c.right)
	}
}

func TestParseExpNotRight(t *testing.T) {
	for depth := 1; depth <= 20; depth++ {
		for _, text := range []string{
			strings.Repeat("a[", depth-1) + "1" + strings.Repeat("]", depth-1),
			strings.Repeat("1 * ", depth-1) + "1",
			strings.Repeat("x - ", depth-1) + "x",
			strings.Repeat("1 + (", depth-1) + "1" + strings.Repeat(")", depth-1),
			strings.Repeat("max(", depth-1) + "1" + strings.Repeat(", 1)", depth-1),
		} {
			if wantExpAsCut(t, text) != (depth <= 8) {
				t.Errorf("ParseExp(%q) is wrong at %d deep", text, depth)
			}
		}
	}
	for count := 1; count <= 70; count++ {
		e := expOfCount(count)
		text := bracketText(e)
		if count <= 60 {
			wantParseExp(t, text, e)
			wantParse(t, "array a 4; print "+text+";", progOf(arrsOf("a"), printStmt(e)))
		} else {
			wantNoParseExp(t, text)
			wantNoParse(t, "array a 4; print "+text+";")
		}
	}
}

// bracketText tells an expression with brackets around every part that has parts.
func bracketText(e impl.Exp) string {
	switch e.K {
	case impl.ENum:
		return strconv.Itoa(e.N)
	case impl.EVar:
		return e.S
	case impl.EAt:
		return "(" + e.S + "[" + bracketText(e.L[0]) + "])"
	case impl.EMin:
		return "(min(" + bracketText(e.L[0]) + ", " + bracketText(e.L[1]) + "))"
	case impl.EMax:
		return "(max(" + bracketText(e.L[0]) + ", " + bracketText(e.L[1]) + "))"
	}
	return "(" + bracketText(e.L[0]) + " " + map[int]string{impl.EAdd: "+", impl.ESub: "-", impl.EMul: "*"}[e.K] + " " + bracketText(e.L[1]) + ")"
}

func TestParseExpOfAllPairs(t *testing.T) {
	for _, left := range append(expKinds(), expOfCount(9)) {
		for _, right := range append(expKinds(), expOfCount(8)) {
			for k := impl.EAdd; k <= impl.EMax; k++ {
				e := twoExp(k, left, right)
				wantParseExp(t, bracketText(e), e)
				e = atExp("b", twoExp(impl.ESub, e, left))
				wantParseExp(t, bracketText(e), e)
			}
		}
	}
}

// Programs with all that there is, on which signs are left out and put in.
var wholeTexts = []string{
	"array b 4; array a 2; x = 1; for i = 0 to x { b[i] = a[0] * (x - 1); print min(i, 2); }",
	"for i = 1 to 2 { for j = i to max(i, 3) { s = s + i * j; } print s; } print s - (1 + i);",
	"array c 16; c[c[0] + 1] = min(c[1], (2)); for k = c[0] to 3 { c[k] = k; x = c[k] - k; } print x;",
}

var wholeExps = []string{"a[i + 1] * (x - min(2, b[a[0]])) + max(x, (1)) - 3", "min(max(1, 2), a[b[c]])", "((a - b) * c)"}

// allSigns has one of each kind that can be put in.
var allSigns = []impl.Tok{
	nameTok("x"), nameTok("a"), numberTok(1), keptTok("array"), keptTok("for"), keptTok("to"), keptTok("print"), keptTok("min"), keptTok("max"),
	markTok(";"), markTok("="), markTok("["), markTok("]"), markTok("("), markTok(")"), markTok("{"), markTok("}"), markTok("+"), markTok("-"), markTok("*"), markTok(","),
}

func TestParseWholeTexts(t *testing.T) {
	for _, s := range wholeTexts {
		l, _ := lexed(s)
		for _, text := range []string{s, impl.TokText(l), spread(l), tight(l)} {
			if !wantAsCut(t, text) {
				t.Errorf("%q cannot be read", text)
			}
		}
	}
	for _, s := range wholeExps {
		l, _ := lexed(s)
		for _, text := range []string{s, impl.TokText(l), spread(l), tight(l)} {
			if !wantExpAsCut(t, text) {
				t.Errorf("%q cannot be read", text)
			}
		}
	}
	i, x, one := varExp("i"), varExp("x"), numExp(1)
	wantParse(t, wholeTexts[0], progOf([]impl.Arr{{Name: "a", Size: 2}, {Name: "b", Size: 4}},
		setStmt("x", one),
		forStmt("i", numExp(0), x,
			putStmt("b", i, twoExp(impl.EMul, atExp("a", numExp(0)), twoExp(impl.ESub, x, one))),
			printStmt(twoExp(impl.EMin, i, numExp(2))))))
}

// A text that ends too early, at each place: where nothing is begun what is ahead is a program of its own.
func TestParseEndsTooEarly(t *testing.T) {
	right := 0
	for _, s := range wholeTexts {
		l, _ := lexed(s)
		for end := range l {
			if wantAsCut(t, impl.TokText(l[:end])) {
				right++
				if end > 0 && len(outermost(l[:end], ";}")) == 0 {
					t.Errorf("%q can be read", impl.TokText(l[:end]))
				}
			}
		}
	}
	if right != 10 {
		t.Errorf("%d beginnings can be read", right)
	}
	for _, s := range wholeExps {
		l, _ := lexed(s)
		for end := range l {
			wantExpAsCut(t, impl.TokText(l[:end]))
			wantExpAsCut(t, impl.TokText(l[end:]))
			wantAsCut(t, "x = "+impl.TokText(l[:end]))
			wantNoParse(t, "print "+impl.TokText(l[:end]))
		}
	}
}

// changedTexts have a sign too many, too few, in place of another, or two the wrong way round, at each place.
func changedTexts(l []impl.Tok) []string {
	var out []string
	add := func(l []impl.Tok) { out = append(out, impl.TokText(l)) }
	for at := range len(l) + 1 {
		for _, sign := range allSigns {
			add(slices.Insert(slices.Clone(l), at, sign))
			if at < len(l) {
				add(replaced(l, at, sign))
			}
		}
		if at < len(l) {
			add(slices.Delete(slices.Clone(l), at, at+1))
		}
		if at+1 < len(l) {
			add(replaced(replaced(l, at, l[at+1]), at+1, l[at]))
		}
	}
	return out
}

func TestParseSignsTooManyAndTooFew(t *testing.T) {
	right, all := 0, 0
	count := func(ok bool) {
		all++
		if ok {
			right++
		}
	}
	for _, s := range wholeTexts {
		l, _ := lexed(s)
		for _, text := range changedTexts(l) {
			count(wantAsCut(t, text))
		}
	}
	for _, s := range wholeExps {
		l, _ := lexed(s)
		for _, text := range changedTexts(l) {
			count(wantExpAsCut(t, text))
			count(wantAsCut(t, "array a 4; array b 4; x = "+text+";"))
		}
	}
	if right < 200 || all < 5*right {
		t.Errorf("%d of %d can be read: too few to tell", right, all)
	}
	for _, s := range wholeTexts {
		for _, sign := range allSigns {
			wantNoParse(t, s+impl.TokText([]impl.Tok{sign}))
		}
		for _, more := range []string{"x", "1", "}", ")", "]", ";", "=", "{", "array z 2;", "x = 1", "$", "\xff", "A"} {
			wantNoParse(t, s+" "+more)
		}
	}
	for _, s := range wholeExps {
		for _, more := range []string{"x", "1", "}", ")", "]", ";", "=", "{", "[0]", "(1)", "+", "-", "*", ",", "$", "min(1, 2)"} {
			wantNoParseExp(t, s+" "+more)
		}
	}
}

// A text that Lex refuses is refused, however right the signs ahead of that are.
func TestParseOfWhatLexRefuses(t *testing.T) {
	for _, wrong := range []string{"$", "A", "abcdefg", "1000000", "00", "07", "\t", "\r", "\x00", "\xff", "é", "_", "/", "."} {
		for _, s := range []string{wrong, "print 1; " + wrong, wrong + " print 1;", "print " + wrong + ";", wrong + " = 1;", "array " + wrong + " 4;", "array a " + wrong + ";", "for i = 0 to 1 { " + wrong + " print 1; }"} {
			wantNoParse(t, s)
		}
		for _, s := range []string{wrong, "1 " + wrong, wrong + " 1", "1 + " + wrong, "a[" + wrong + "]", "(" + wrong + ")"} {
			wantNoParseExp(t, s)
		}
	}
	for _, s := range []string{"x = 1;", "array a 4;", wholeTexts[0]} {
		room := strings.Repeat(" ", 3000-len(s))
		for _, text := range []string{s + room, room + s} {
			if !wantAsCut(t, text) {
				t.Errorf("%q with blanks up to 3000 bytes cannot be read", s)
			}
			wantNoParse(t, text+" ")
		}
	}
	wantParseExp(t, "1"+strings.Repeat(" ", 2999), numExp(1))
	wantNoParseExp(t, "1"+strings.Repeat(" ", 3000))
}

// Texts of just MaxToks signs, filled up by brackets.
func TestParseMostSigns(t *testing.T) {
	for _, c := range []struct{ head, tail string }{{"", ""}, {"array a 4; ", ""}, {"for i = 0 to 1 { ", "}"}} {
		around, _ := lexed(c.head + c.tail)
		var b strings.Builder
		b.WriteString(c.head)
		left := impl.MaxToks - len(around)
		for count := 6; count > 0; count-- {
			// Of what is left each takes its share: `print`, `;`, and what is in between.
			signs := left/count - 2
			left -= left / count
			b.WriteString("print " + sumOfSigns(signs) + ";")
		}
		s := b.String() + c.tail
		if l, ok := lexed(s); !ok || len(l) != impl.MaxToks {
			t.Fatalf("%d signs", len(l))
		}
		if !wantAsCut(t, s) {
			t.Errorf("%d signs cannot be read", impl.MaxToks)
		}
		wantNoParse(t, "array b 4;"+s)
		wantNoParse(t, strings.Replace(s, "print ", "print 1 + ", 1))
	}
}

// sumOfSigns is a right sum of so many signs: four parts, with brackets around them as long as there are signs left.
func sumOfSigns(signs int) string {
	parts, left := []string{"1", "x", "2", "3"}, signs-7
	if signs%2 == 0 {
		parts, left = []string{"min(1, x)", "x", "2", "3"}, signs-12
	}
	for i, part := range parts {
		brackets := min(28, left/2)
		parts[i] = strings.Repeat("(", brackets) + part + strings.Repeat(")", brackets)
		left -= 2 * brackets
	}
	return strings.Join(parts, " + ")
}

// Texts put together of signs at random, of which some can be read.
func TestParseOfManyTexts(t *testing.T) {
	seed := uint64(11)
	pick := func(n int) int {
		seed = seed*6364136223846793005 + 1442695040888963407
		return int(seed>>33) % n
	}
	var sum func(depth int) string
	sum = func(depth int) string {
		switch at := pick(12); {
		case depth == 0 || at < 2:
			return []string{"1", "x", "i", "999999", "0"}[pick(5)]
		case at < 4:
			return "a[" + sum(depth-1) + "]"
		case at < 6:
			return "(" + sum(depth-1) + ")"
		case at < 8:
			return []string{"min(", "max("}[pick(2)] + sum(depth-1) + ", " + sum(depth-1) + ")"
		}
		return sum(depth-1) + []string{" + ", "-", " * ", "*", " - "}[pick(5)] + sum(depth-1)
	}
	var stmt func(depth int) string
	stmt = func(depth int) string {
		switch at := pick(8); {
		case at < 2:
			return []string{"x", "y", "z"}[pick(3)] + " = " + sum(3) + ";"
		case at < 4:
			return "a[" + sum(2) + "] = " + sum(3) + ";"
		case at < 6 || depth == 0:
			return "print " + sum(4) + ";"
		}
		text := "for " + []string{"i", "j", "k"}[pick(3)] + " = " + sum(1) + " to " + sum(1) + " {"
		for range 1 + pick(3) {
			text += stmt(depth - 1)
		}
		return text + "}"
	}
	right, all := 0, 0
	for range 3000 {
		text := "array b 3; array a 4;\n"
		for range pick(4) {
			text += stmt(3)
		}
		for _, s := range []string{text, sum(5)} {
			wantExpAsCut(t, s)
			if all++; wantAsCut(t, s) {
				right++
			}
			l, _ := lexed(s)
			for range 3 {
				// Now and then two changes make up for each other.
				l = slices.Clone(l)
				for range 1 + pick(2) {
					if at := pick(len(l) + 1); pick(2) == 0 || at == len(l) {
						l = slices.Insert(l, at, allSigns[pick(len(allSigns))])
					} else {
						l = slices.Delete(l, at, at+1)
					}
				}
				wantExpAsCut(t, impl.TokText(l))
				if all++; wantAsCut(t, impl.TokText(l)) {
					right++
				}
			}
		}
	}
	if right < 1000 || all < 2*right {
		t.Errorf("%d of %d can be read: too few to tell", right, all)
	}
}

// An answer is new memory: whoever writes into one changes no other.
func TestWhatIsReadIsNew(t *testing.T) {
	for _, s := range wholeTexts {
		first, _ := impl.Parse(s)
		second, _ := impl.Parse(s)
		kept := progText(first)
		for i := range second.Arrs {
			second.Arrs[i] = impl.Arr{}
		}
		exps, bodies := listsOf([]impl.Stmt{{Body: second.Body}})
		for _, l := range exps {
			clear(l[:cap(l)])
		}
		for _, l := range bodies {
			clear(l[:cap(l)])
		}
		if progText(first) != kept {
			t.Errorf("two answers of Parse(%q) share memory", s)
		}
		third, _ := impl.Parse(s)
		if progText(third) != kept {
			t.Errorf("Parse(%q) is another one later", s)
		}
	}
	for _, s := range wholeExps {
		first, _ := impl.ParseExp(s)
		second, _ := impl.ParseExp(s)
		kept := expText(first)
		exps, _ := listsOf([]impl.Stmt{printStmt(second)})
		for _, l := range exps {
			clear(l[:cap(l)])
		}
		if third, _ := impl.ParseExp(s); expText(first) != kept || expText(third) != kept {
			t.Errorf("two answers of ParseExp(%q) share memory", s)
		}
	}
}
