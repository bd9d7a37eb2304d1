package tests

import (
	"fmt"
	"slices"
	"strings"
	"testing"

	"loop.example/g00476/impl"
)

func accText(c impl.Acc) string {
	return fmt.Sprintf("%q[%s] %v %d", c.Name, affText(c.F), c.Puts, c.Stmt)
}

func accsText(l []impl.Acc) string {
	text := "touched"
	for _, c := range l {
		text += "; " + accText(c)
	}
	return text
}

func asked(name string, stmt int, c int, terms ...impl.Term) impl.Acc {
	return impl.Acc{Name: name, F: affOf(c, terms...), Stmt: stmt}
}

func put(name string, stmt int, c int, terms ...impl.Term) impl.Acc {
	return impl.Acc{Name: name, F: affOf(c, terms...), Puts: true, Stmt: stmt}
}

func wantConst(t *testing.T, e impl.Exp, want int, is bool) {
	t.Helper()
	if n, ok := impl.ConstOf(e); n != want || ok != is {
		t.Errorf("ConstOf of %.300s is %d, %v, not %d, %v", expText(e), n, ok, want, is)
	}
}

func wantBox(t *testing.T, s impl.Stmt, want ...impl.Rng) {
	t.Helper()
	if l, ok := impl.BoxOf(s); !slices.Equal(l, want) || !ok || !impl.BoxOk(l) {
		t.Errorf("BoxOf of %.400s is %s, %v, not %s", stmtText(s), boxText(l), ok, boxText(want))
	}
}

func wantNoBox(t *testing.T, s impl.Stmt) {
	t.Helper()
	if l, ok := impl.BoxOf(s); len(l) != 0 || ok {
		t.Errorf("BoxOf of %.400s is %s, %v", stmtText(s), boxText(l), ok)
	}
	wantNoAccs(t, s)
}

func wantAccs(t *testing.T, s impl.Stmt, want ...impl.Acc) {
	t.Helper()
	if l, ok := impl.AccsOf(s); accsText(l) != accsText(want) || !ok {
		t.Errorf("AccsOf of %.400s is %s, %v, not %s", stmtText(s), accsText(l), ok, accsText(want))
	}
}

func wantNoAccs(t *testing.T, s impl.Stmt) {
	t.Helper()
	if l, ok := impl.AccsOf(s); len(l) != 0 || ok {
		t.Errorf("AccsOf of %.400s is %s, %v", stmtText(s), accsText(l), ok)
	}
	for _, arrs := range [][]impl.Arr{nil, arrsOf("a", "b", "c")} {
		wantWithin(t, false, progOf(arrs), s)
	}
}

func wantWithin(t *testing.T, want bool, p impl.Prog, s impl.Stmt) {
	t.Helper()
	if impl.Within(p, s) != want {
		t.Errorf("Within of %.200s in %.400s is %v", progText(p), stmtText(s), !want)
	}
}

// loopParsed is the first statement of a text, ahead of which four arrays stand.
func loopParsed(t *testing.T, s string) impl.Stmt {
	t.Helper()
	return parsed(t, "array a 16; array b 16; array c 8; array d 1;"+s).Body[0]
}

func TestConstOf(t *testing.T) {
	for text, want := range map[string]int{
		"0": 0, "7": 7, "99999": 99999, "100000": 100000, "2 + 3": 5, "2 - 3": -1, "2 * 3": 6, "2 * 3 - 7": -1, "0 - 100000": -100000, "(1 - 3) * (4 - 9) + 2": 12, "0 * 5": 0, "1 - 1": 0, "0 - 4 * 5": -20, "99999 + 1": 100000, "10 - (3 - 2)": 9,
	} {
		wantConst(t, parsedExp(t, text), want, true)
	}
	for _, text := range []string{
		// A name, even where it would come to nothing.
		"i", "i + 1", "i - i", "0 * i", "i * 0", "3 - 0 * x", "min(1, 2)", "max(1, 1)", "0 * min(1, 2)", "a[0]", "a[1] * 0", "2 + a[i]",
		// Past the limit, at once or on the way.
		"100001", "999999", "100000 + 1", "0 - 100001", "100000 + 1 - 1", "100001 * 0", "400 * 400", "400 * 400 - 100000",
	} {
		wantConst(t, parsedExp(t, text), 0, false)
	}
	for _, e := range []impl.Exp{{}, {K: 9}, {K: 9, N: 1}, numExp(-100001), numExp(1000000), {K: impl.EAdd, L: []impl.Exp{numExp(1)}}, {K: impl.EMul}, varExp(""), varExp("for"), {K: impl.EVar, S: "i", N: 1}, {K: impl.EMin, L: []impl.Exp{numExp(1), numExp(1)}}, {K: impl.ESub, L: []impl.Exp{numExp(1), numExp(1), numExp(1)}}} {
		wantConst(t, e, 0, false)
		wantConst(t, twoExp(impl.EMul, numExp(0), e), 0, false)
	}
	// Not even what Eval refuses is refused for that alone.
	wantConst(t, numExp(-1), -1, true)
	wantConst(t, numExp(-100000), -100000, true)
	wantConst(t, impl.Exp{K: impl.ENum, N: 1, S: "x"}, 1, true)
	wantConst(t, impl.Exp{K: impl.ENum, N: 1, L: []impl.Exp{varExp("x")}}, 1, true)
	wantConst(t, twoExp(impl.EAdd, numExp(1), numExp(-1)), 0, true)
	wantConst(t, impl.Exp{K: impl.ESub, N: 1, S: "x", L: []impl.Exp{numExp(1), numExp(3)}}, -2, true)
	for depth := 1; depth <= 12; depth++ {
		deep, wide := numExp(1), numExp(1)
		for range depth - 1 {
			deep, wide = twoExp(impl.EAdd, deep, numExp(1)), twoExp(impl.EAdd, wide, wide)
		}
		wantConst(t, deep, depth, true)
		wantConst(t, wide, 1<<(depth-1), true)
	}
}

func TestBoxOfNoLoop(t *testing.T) {
	inner := loopIn("i", setStmt("x", numExp(1)))
	for _, s := range []impl.Stmt{{}, setStmt("x", numExp(1)), putStmt("a", numExp(0), numExp(1)), printStmt(numExp(1)), {K: 9, S: "i", Lo: numExp(0), Hi: numExp(1), Body: []impl.Stmt{inner}}} {
		wantNoBox(t, s)
		for k := -1; k <= 6; k++ {
			if k != impl.SFor {
				wantNoBox(t, impl.Stmt{K: k, S: "i", Lo: numExp(0), Hi: numExp(1), Body: []impl.Stmt{s, inner}})
			}
		}
	}
}

func TestBoxOfOneLoop(t *testing.T) {
	for text, want := range map[string]impl.Rng{
		"for i = 0 to 3": rngOf("i", 0, 3), "for zzzzzz = 1 to 2": rngOf("zzzzzz", 1, 2), "for i = 2 * 3 - 7 to 4 * 5 + 1": rngOf("i", -1, 21), "for i = 0 - 5 to 0 - 2": rngOf("i", -5, -2),
		"for i = 4 to 4": rngOf("i", 4, 4), "for i = 0 to 0": rngOf("i", 0, 0), "for i = 1 - 4 to 2 - 5": rngOf("i", -3, -3),
		"for i = 0 - 10000 to 10000": rngOf("i", -10000, 10000), "for i = 10000 to 10000": rngOf("i", 10000, 10000), "for i = 0 - 10000 to 0 - 10000": rngOf("i", -10000, -10000),
	} {
		wantBox(t, loopParsed(t, text+" { x = 1; }"), want)
		wantBox(t, loopParsed(t, text+" { a[1] = 1; print 1; x = a[x]; }"), want)
	}
	for _, text := range []string{
		// The other way, by one and by more.
		"for i = 1 to 0", "for i = 5 to 4", "for i = 0 to 0 - 1", "for i = 10000 to 0 - 10000", "for i = 0 - 3 to 0 - 4",
		// Past the ends.
		"for i = 0 to 10001", "for i = 0 - 10001 to 0", "for i = 10001 to 10001", "for i = 0 - 10001 to 0 - 10001", "for i = 0 to 100000", "for i = 0 to 100001",
		// No number.
		"for i = x to 3", "for i = 0 to x", "for i = i to 3", "for i = 0 to i", "for i = 0 * x to 3", "for i = 0 to x - x", "for i = a[0] to 3", "for i = 0 to a[0]", "for i = 0 to min(1, 2)", "for i = max(0, 0) to 3", "for i = 0 to 100000 + 1 - 99999",
	} {
		wantNoBox(t, loopParsed(t, text+" { x = 1; }"))
	}
	for i, names := range [][]string{rightNames, wrongNames} {
		for _, name := range names {
			if s := loopIn(name, setStmt("x", numExp(1))); i == 0 {
				wantBox(t, s, rngOf(name, 0, 3))
			} else {
				wantNoBox(t, s)
				wantNoBox(t, loopIn("i", s))
			}
		}
	}
	wantNoBox(t, forStmt("i", impl.Exp{}, numExp(1)))
	wantNoBox(t, forStmt("i", numExp(0), impl.Exp{K: impl.EVar, N: 1}))
	wantBox(t, forStmt("i", numExp(-1), numExp(1)), rngOf("i", -1, 1))
	wantBox(t, forStmt("i", numExp(-10000), numExp(-10000)), rngOf("i", -10000, -10000))
	wantNoBox(t, forStmt("i", numExp(-10001), numExp(1)))
	wantBox(t, forStmt("i", numExp(0), impl.Exp{K: impl.ENum, N: 1, S: "x"}), rngOf("i", 0, 1))
	wantBox(t, forStmt("i", impl.Exp{K: impl.ESub, N: 3, L: []impl.Exp{numExp(1), numExp(-1)}}, numExp(2)), rngOf("i", 2, 2))
}

func TestBoxOfLoopsInLoops(t *testing.T) {
	i, j, k, l := rngOf("i", 1, 3), rngOf("j", 0, 1), rngOf("k", -2, 5), rngOf("l", 7, 7)
	wantBox(t, loopParsed(t, "for i = 1 to 3 { for j = 0 to 1 { x = 1; } }"), i, j)
	wantBox(t, loopParsed(t, "for j = 0 to 1 { for i = 1 to 3 { x = 1; } }"), j, i)
	wantBox(t, loopParsed(t, "for i = 1 to 3 { for k = 0 - 2 to 5 { x = 1; } x = 2; for j = 0 to 1 { x = 1; } }"), i, k, j)
	wantBox(t, loopParsed(t, "for i = 1 to 3 { x = 1; for j = 0 to 1 { for k = 0 - 2 to 5 { x = 1; } x = 2; } for l = 7 to 7 { x = 1; } }"), i, j, k, l)
	wantBox(t, loopParsed(t, "for l = 7 to 7 { for k = 0 - 2 to 5 { x = 1; } for j = 0 to 1 { x = 1; for i = 1 to 3 { x = 1; } } x = 1; }"), l, k, j, i)
	wantBox(t, loopParsed(t, "for l = 7 to 7 { for j = 0 to 1 { for i = 1 to 3 { x = 1; } for k = 0 - 2 to 5 { x = 1; } } }"), l, j, i, k)
	for _, text := range []string{
		// One of them is no number, ends ahead of where it begins, or goes too far, however far within.
		"for i = 0 to 3 { for j = 0 to i { x = 1; } }", "for i = 0 to 3 { for j = i to 3 { x = 1; } }", "for i = 0 to 3 { for j = x to 3 { y = 1; } }", "for i = 0 to 3 { x = 1; for j = 0 to 1 { for k = 0 to i { x = 1; } } }", "for i = 0 to 3 { for j = 0 to 1 { x = 1; } for k = 0 to a[1] { x = 1; } }",
		"for i = 0 to 3 { for j = 1 to 0 { x = 1; } }", "for i = 0 to 3 { for j = 0 to 1 { x = 1; } for k = 5 to 4 { x = 1; } }", "for i = 1 to 0 { for j = 0 to 3 { x = 1; } }", "for i = 0 to 3 { for j = 0 to 1 { for k = 1 to 0 { x = 1; } } }",
		"for i = 0 to 3 { for j = 0 to 10001 { x = 1; } }", "for i = 0 to 3 { for j = 0 - 10001 to 0 { x = 1; } }",
		// Two of one Name behind each other; within each other below.
		"for i = 0 to 3 { for j = 0 to 1 { x = 1; } for j = 0 to 1 { x = 1; } }", "for i = 0 to 3 { for j = 0 to 1 { x = 1; } for k = 0 to 1 { for j = 2 to 3 { x = 1; } } }", "for i = 0 to 3 { for j = 0 to 1 { for k = 0 to 1 { x = 1; } } x = 1; for k = 0 to 1 { x = 1; } }",
	} {
		wantNoBox(t, loopParsed(t, text))
	}
	set := setStmt("x", numExp(1))
	wantNoBox(t, loopIn("i", loopIn("i", set)))
	wantNoBox(t, loopIn("i", loopIn("j", loopIn("i", set))))
	wantNoBox(t, loopIn("i", loopIn("j", loopIn("j", set))))
}

// Eight loops are a box, in whatever way they stand; nine are none.
func TestBoxOfManyLoops(t *testing.T) {
	set := setStmt("x", numExp(1))
	names := append(slices.Clone(eightNames), "i", "j")
	for many := 1; many <= 10; many++ {
		deep, flat, pairs := set, loopIn(names[0], set), loopIn(names[0], set)
		for at := range many {
			deep = loopIn(names[many-1-at], deep)
		}
		for at := 1; at < many; at++ {
			flat.Body = append(flat.Body, loopIn(names[at], set))
		}
		for at := 1; at < many; at += 2 {
			pair := loopIn(names[at], set)
			if at+1 < many {
				pair = loopIn(names[at], loopIn(names[at+1], set))
			}
			pairs.Body = append(pairs.Body, pair)
		}
		var want []impl.Rng
		for _, name := range names[:many] {
			want = append(want, rngOf(name, 0, 3))
		}
		for _, s := range []impl.Stmt{deep, flat, pairs} {
			if many <= 8 {
				wantBox(t, s, want...)
			} else {
				wantNoBox(t, s)
			}
		}
		if many == 9 && !impl.StmtOk(pairs) {
			t.Error("nine loops are not a right statement")
		}
	}
}

// All parts are looked at, whatever their kind names.
func TestBoxOfAllParts(t *testing.T) {
	j := forStmt("j", numExp(1), numExp(2), setStmt("x", numExp(1)))
	for k := -1; k <= 6; k++ {
		if k == impl.SFor {
			continue
		}
		within := impl.Stmt{K: k, S: "q", E: numExp(1), Body: []impl.Stmt{j, loopIn("k")}}
		wantBox(t, loopIn("i", within), rngOf("i", 0, 3), rngOf("j", 1, 2), rngOf("k", 0, 3))
		wantBox(t, loopIn("i", setStmt("x", numExp(1)), impl.Stmt{K: k, Body: []impl.Stmt{within}}), rngOf("i", 0, 3), rngOf("j", 1, 2), rngOf("k", 0, 3))
		wantNoBox(t, loopIn("i", impl.Stmt{K: k, Body: []impl.Stmt{loopIn("i")}}))
		wantNoBox(t, loopIn("i", impl.Stmt{K: k, Body: []impl.Stmt{forStmt("j", numExp(1), numExp(0))}}))
		wantNoBox(t, loopIn("i", impl.Stmt{K: k, Body: []impl.Stmt{forStmt("j", varExp("x"), numExp(0))}}))
	}
	// Nothing else need be right.
	wantBox(t, loopIn("i"), rngOf("i", 0, 3))
	wantBox(t, impl.Stmt{K: impl.SFor, S: "i", At: varExp("for"), E: numExp(-1), Lo: numExp(0), Hi: numExp(0), Body: []impl.Stmt{{}, setStmt("for", impl.Exp{K: 9})}}, rngOf("i", 0, 0))
	wantBox(t, loopIn("i", slices.Repeat([]impl.Stmt{setStmt("i", numExp(1))}, 1000)...), rngOf("i", 0, 3))
}

func TestAccsOfOneLoop(t *testing.T) {
	i := termOf("i", 1)
	for _, c := range []struct {
		body string
		want []impl.Acc
	}{
		// Nothing is touched.
		{"x = 1;", nil}, {"x = i + x * 3; y = min(x, i);", nil},
		// What is asked, from the left, in each kind of expression.
		{"x = a[i];", []impl.Acc{asked("a", 0, 0, i)}}, {"x = a[3];", []impl.Acc{asked("a", 0, 3)}}, {"x = a[i - i + 2];", []impl.Acc{asked("a", 0, 2)}}, {"x = a[0 * i];", []impl.Acc{asked("a", 0, 0)}},
		{"x = a[i - 1] + b[5 - i];", []impl.Acc{asked("a", 0, -1, i), asked("b", 0, 5, termOf("i", -1))}},
		{"x = b[i] - a[2 * i] * c[1];", []impl.Acc{asked("b", 0, 0, i), asked("a", 0, 0, termOf("i", 2)), asked("c", 0, 1)}},
		{"x = min(a[3], b[2]) - max(c[1], i + a[0]);", []impl.Acc{asked("a", 0, 3), asked("b", 0, 2), asked("c", 0, 1), asked("a", 0, 0)}},
		{"x = (a[1] + (a[2] - a[3])) * (a[4] * a[5]);", []impl.Acc{asked("a", 0, 1), asked("a", 0, 2), asked("a", 0, 3), asked("a", 0, 4), asked("a", 0, 5)}},
		// Asked twice, it is told twice.
		{"x = a[i] + a[i];", []impl.Acc{asked("a", 0, 0, i), asked("a", 0, 0, i)}},
		// What is put, behind what is asked.
		{"a[i] = 1;", []impl.Acc{put("a", 0, 0, i)}}, {"a[2] = i;", []impl.Acc{put("a", 0, 2)}}, {"a[i * 2 + 1] = x;", []impl.Acc{put("a", 0, 1, termOf("i", 2))}},
		{"a[i] = b[i - 1] + a[i];", []impl.Acc{asked("b", 0, -1, i), asked("a", 0, 0, i), put("a", 0, 0, i)}}, {"b[3 * (i - 1)] = a[1] - c[2];", []impl.Acc{asked("a", 0, 1), asked("c", 0, 2), put("b", 0, -3, termOf("i", 3))}},
		// Statement by statement.
		{"x = a[i]; b[i] = 1; y = x; c[1] = a[2];", []impl.Acc{asked("a", 0, 0, i), put("b", 1, 0, i), asked("a", 3, 2), put("c", 3, 1)}},
		{"a[1] = 1; a[2] = 2; a[3] = 3; a[4] = 4; a[5] = 5; a[6] = 6;", []impl.Acc{put("a", 0, 1), put("a", 1, 2), put("a", 2, 3), put("a", 3, 4), put("a", 4, 5), put("a", 5, 6)}},
	} {
		wantAccs(t, loopParsed(t, "for i = 1 to 3 { "+c.body+" }"), c.want...)
	}
	wantAccs(t, loopIn("i"))
	wantAccs(t, impl.Stmt{K: impl.SFor, S: "i", Lo: numExp(0), Hi: numExp(0), Body: []impl.Stmt{}})
}

// Of a loop within all is the same Stmt, as that one is which stands in the Body itself.
func TestAccsOfLoopsInLoops(t *testing.T) {
	i, j, k := termOf("i", 1), termOf("j", 1), termOf("k", 1)
	for _, c := range []struct {
		text string
		want []impl.Acc
	}{
		{"for i = 0 to 1 { for j = 0 to 1 { a[i + j] = b[j]; } }", []impl.Acc{asked("b", 0, 0, j), put("a", 0, 0, i, j)}},
		{"for i = 0 to 1 { for j = 0 to 1 { x = a[j]; y = b[i]; c[1] = 1; } }", []impl.Acc{asked("a", 0, 0, j), asked("b", 0, 0, i), put("c", 0, 1)}},
		{"for i = 0 to 1 { a[i] = 1; for j = 0 to 1 { x = a[j]; b[j] = c[i]; } a[3] = b[2]; }", []impl.Acc{put("a", 0, 0, i), asked("a", 1, 0, j), asked("c", 1, 0, i), put("b", 1, 0, j), asked("b", 2, 2), put("a", 2, 3)}},
		{"for i = 0 to 1 { x = 1; for j = 0 to 1 { for k = 0 to 1 { a[k] = 1; } b[k + j] = 2; } for l = 0 to 1 { c[l] = a[1]; } d[0] = 1; }", []impl.Acc{put("a", 1, 0, k), put("b", 1, 0, j, k), asked("a", 2, 1), put("c", 2, 0, termOf("l", 1)), put("d", 3, 0)}},
		{"for i = 0 to 1 { for j = 0 to 1 { x = a[1]; for k = 0 to 1 { x = a[2]; } x = a[3]; } x = a[4]; }", []impl.Acc{asked("a", 0, 1), asked("a", 0, 2), asked("a", 0, 3), asked("a", 1, 4)}},
		// The names of the whole box count everywhere, ahead of their loop and behind it.
		{"for i = 0 to 1 { a[j] = 1; for j = 0 to 1 { x = 1; } b[j - k] = 1; for k = 0 to 1 { x = c[j]; } }", []impl.Acc{put("a", 0, 0, j), put("b", 2, 0, j, termOf("k", -1)), asked("c", 3, 0, j)}},
	} {
		wantAccs(t, loopParsed(t, c.text), c.want...)
	}
}

func TestNoAccs(t *testing.T) {
	for _, body := range []string{
		// A place that is no straight sum of the loops' names, in what is asked and in what is put.
		"x = a[x];", "x = a[q];", "x = a[i * i];", "x = a[min(i, 1)];", "x = a[max(1, 1)];", "x = a[100001];", "x = a[i * 100000 + i];", "x = a[i + 100001 - 100001];", "x = a[j];",
		"a[x] = 1;", "a[q] = 1;", "a[i * i] = 1;", "a[min(i, 1)] = 1;", "a[100001] = 1;", "a[j] = 1;",
		"x = a[i] + a[x];", "x = a[x] + a[i];", "x = min(1, 2 * a[x]);", "a[i] = a[x];", "a[i] = 1; a[x] = 1;", "x = a[i]; y = b[i] * (1 - b[y]);",
		// A place within a place.
		"x = a[b[i]];", "x = a[a[i]];", "x = a[i + b[1]];", "x = a[0 * b[i]];", "x = a[b[x]];", "x = a[a[a[i]]];", "a[b[i]] = 1;", "a[i + b[1]] = 1;", "a[0 * b[i]] = 1;", "a[i] = a[b[i]];", "a[b[c[i]]] = 1;",
		// Something is printed.
		"print i;", "print 1; a[i] = 1;", "a[i] = 1; print a[i];", "x = 1; for k = 0 to 1 { print k; }", "x = 1; for k = 0 to 1 { x = 1; for l = 0 to 1 { x = 2; print 1; } }",
		// It is in a loop within.
		"for k = 0 to 1 { a[x] = 1; }", "for k = 0 to 1 { a[k] = b[a[k]]; }", "a[i] = 1; for k = 0 to 1 { for l = 0 to 1 { x = a[k * l]; } }",
		// The Lo or the Hi of a loop within asks a place.
		"for k = a[i] to 3 { x = 1; }", "for k = 0 to a[0] { x = 1; }", "a[i] = 1; for k = 0 to 1 { for l = b[1] to 1 { x = 1; } }",
	} {
		wantNoAccs(t, loopParsed(t, "for i = 1 to 3 { "+body+" }"))
	}
	// A loop of which BoxOf is not.
	for _, text := range []string{"for i = 0 to x { a[i] = 1; }", "for i = 1 to 0 { a[i] = 1; }", "for i = 0 to 10001 { a[i] = 1; }", "for i = 0 to 3 { a[i] = 1; for j = 0 to i { x = 1; } }", "a[1] = 1;", "x = a[1];", "print 1;"} {
		wantNoBox(t, loopParsed(t, text))
	}
	// An EAt without a place.
	wantNoAccs(t, loopIn("i", setStmt("x", impl.Exp{K: impl.EAt, S: "a"})))
	wantNoAccs(t, loopIn("i", setStmt("x", twoExp(impl.EAdd, atExp("a", varExp("i")), impl.Exp{K: impl.EAt, S: "a", L: []impl.Exp{}}))))
	// A place that is none.
	for _, place := range []impl.Exp{{}, {K: 9}, numExp(-100001), varExp("for"), {K: impl.EVar, S: "q", N: 1}, {K: impl.EAdd, L: []impl.Exp{varExp("i")}}, deepExps(9)[1]} {
		wantNoAccs(t, loopIn("i", setStmt("x", atExp("a", place))))
		wantNoAccs(t, loopIn("i", putStmt("a", place, numExp(1))))
	}
}

// A place is told by what its kind names, and need not be ExpOk.
func TestAccsOfOddPlaces(t *testing.T) {
	i := termOf("i", 1)
	deep, wide := varExp("i"), varExp("i")
	for range 100 {
		deep = twoExp(impl.EAdd, deep, numExp(1))
	}
	for range 6 {
		wide = twoExp(impl.EAdd, wide, wide)
	}
	for _, c := range []struct {
		place impl.Exp
		want  impl.Aff
	}{
		{numExp(-1), affOf(-1)}, {numExp(-100000), affOf(-100000)}, {impl.Exp{K: impl.EVar, S: "i", N: 1}, affOf(0, i)}, {impl.Exp{K: impl.ENum, N: 2, S: "q"}, affOf(2)}, {impl.Exp{K: impl.EAdd, N: 1, S: "q", L: []impl.Exp{varExp("i"), numExp(-1)}}, affOf(-1, i)}, {deep, affOf(100, i)}, {wide, affOf(0, termOf("i", 64))},
	} {
		asked, put := impl.Acc{Name: "a", F: c.want}, impl.Acc{Name: "b", F: c.want, Puts: true}
		wantAccs(t, loopIn("i", setStmt("x", atExp("a", c.place))), asked)
		wantAccs(t, loopIn("i", putStmt("b", c.place, atExp("a", c.place))), asked, put)
	}
	p := progOf(arrsOf("a", "b"))
	wantWithin(t, true, p, loopIn("i", putStmt("a", impl.Exp{K: impl.EVar, S: "i", N: 1}, numExp(1))))
	wantWithin(t, false, p, loopIn("i", putStmt("a", numExp(-1), numExp(1))))
	wantWithin(t, true, p, loopIn("i", putStmt("a", twoExp(impl.EAdd, numExp(4), numExp(-1)), numExp(1))))
	// What stands where a place's kind names nothing is told ahead of that place.
	within := impl.Exp{K: impl.EVar, S: "i", L: []impl.Exp{atExp("b", numExp(1)), atExp("c", impl.Exp{K: impl.ENum, N: 2, L: []impl.Exp{atExp("d", numExp(3))}})}}
	wantAccs(t, loopIn("i", setStmt("x", atExp("a", within))), asked("b", 0, 1), asked("d", 0, 3), asked("c", 0, 2), asked("a", 0, 0, i))
	wantAccs(t, loopIn("i", putStmt("a", within, atExp("a", numExp(4)))), asked("b", 0, 1), asked("d", 0, 3), asked("c", 0, 2), asked("a", 0, 4), put("a", 0, 0, i))
	wantNoAccs(t, loopIn("i", setStmt("x", atExp("a", impl.Exp{K: impl.EVar, S: "i", L: []impl.Exp{atExp("b", varExp("q"))}}))))
}

// All parts are looked at, whatever their kind names: ahead of what is put the At and the E, behind it the Body.
func TestAccsOfAllParts(t *testing.T) {
	at := func(place int) impl.Exp { return atExp("a", numExp(place)) }
	for k := -1; k <= 6; k++ {
		inner := impl.Stmt{K: k, S: "b", At: twoExp(impl.EAdd, at(1), at(2)), E: at(3), Lo: numExp(0), Hi: numExp(1), Body: []impl.Stmt{setStmt("x", at(4)), putStmt("c", numExp(5), at(6))}}
		behind := setStmt("x", at(7))
		l := []impl.Acc{asked("a", 0, 1), asked("a", 0, 2), asked("a", 0, 3), asked("a", 0, 4), asked("a", 0, 6), put("c", 0, 5), asked("a", 1, 7)}
		switch k {
		case impl.SPrint, impl.SPut:
			// What is put at such a place is no straight sum.
			wantNoAccs(t, loopIn("i", inner, behind))
		default:
			wantAccs(t, loopIn("i", inner, behind), l...)
		}
		if k == impl.SPrint {
			continue
		}
		inner.At = varExp("i")
		if k != impl.SPut {
			wantAccs(t, loopIn("i", inner, behind), l[2:]...)
		} else {
			wantAccs(t, loopIn("i", inner, behind), asked("a", 0, 3), put("b", 0, 0, termOf("i", 1)), asked("a", 0, 4), asked("a", 0, 6), put("c", 0, 5), asked("a", 1, 7))
		}
		inner.Body = []impl.Stmt{printStmt(numExp(1))}
		wantNoAccs(t, loopIn("i", inner))
	}
	for k := -1; k <= 9; k++ {
		if k == impl.EAt {
			continue
		}
		// In parts that an expression's kind does not have.
		e := impl.Exp{K: k, N: 3, S: "q", L: []impl.Exp{at(1), at(2), numExp(1), at(3)}}
		l := []impl.Acc{asked("a", 0, 1), asked("a", 0, 2), asked("a", 0, 3)}
		wantAccs(t, loopIn("i", setStmt("x", e)), l...)
		wantAccs(t, loopIn("i", putStmt("b", varExp("i"), e)), append(l, put("b", 0, 0, termOf("i", 1)))...)
		e.L[1] = atExp("a", varExp("x"))
		wantNoAccs(t, loopIn("i", setStmt("x", e)))
	}
	wantAccs(t, loopIn("i", slices.Repeat([]impl.Stmt{setStmt("i", numExp(1))}, 1000)...))
	far := loopIn("i", append(slices.Repeat([]impl.Stmt{setStmt("i", numExp(1))}, 1000), setStmt("x", at(1)))...)
	wantAccs(t, far, asked("a", 1000, 1))
}

func TestWithin(t *testing.T) {
	for _, c := range []struct {
		text string
		size int
		want bool
	}{
		// From 0, and one before it.
		{"for i = 0 to 3 { a[i] = 1; }", 4, true}, {"for i = 1 to 3 { a[i - 1] = 1; }", 3, true}, {"for i = 0 to 3 { a[i - 1] = 1; }", 4, false}, {"for i = 0 to 3 { x = a[3 - i]; }", 4, true}, {"for i = 0 to 3 { x = a[2 - i]; }", 4, false}, {"for i = 0 to 1 { a[0] = 1; }", 1, true}, {"for i = 0 to 1 { a[0 - 1] = 1; }", 4, false},
		// To the Size less 1, and one past it.
		{"for i = 0 to 4 { a[i] = 1; }", 4, false}, {"for i = 0 to 3 { x = a[i + 1]; }", 4, false}, {"for i = 0 to 3 { x = a[i + 1]; }", 5, true}, {"for i = 0 to 5 { a[3 * i] = 1; }", 16, true}, {"for i = 0 to 5 { a[3 * i + 1] = 1; }", 16, false}, {"for i = 0 to 1 { a[15] = 1; }", 16, true}, {"for i = 0 to 1 { a[15] = 1; }", 15, false},
		// One of several.
		{"for i = 0 to 3 { a[i] = a[3 - i]; x = a[2]; }", 4, true}, {"for i = 0 to 3 { a[i] = a[4 - i]; x = a[2]; }", 4, false}, {"for i = 0 to 3 { a[i] = a[3 - i]; x = a[4]; }", 4, false}, {"for i = 0 to 3 { a[i + 1] = a[3 - i]; x = a[2]; }", 4, false},
		// In loops within, of both names.
		{"for i = 0 to 2 { for j = 0 to 1 { a[i + j] = 1; } }", 4, true}, {"for i = 0 to 2 { for j = 0 to 1 { a[i + j] = 1; } }", 3, false}, {"for i = 1 to 2 { for j = 0 to 1 { a[i - j] = 1; } }", 3, true}, {"for i = 1 to 2 { for j = 0 to 2 { a[i - j] = 1; } }", 3, false}, {"for i = 0 to 3 { a[i] = 1; for j = 0 to 4 { x = a[j]; } }", 4, false},
		// Nothing is touched.
		{"for i = 0 to 3 { x = i; }", 1, true},
	} {
		p := parsed(t, fmt.Sprintf("array a %d; %s", c.size, c.text))
		wantWithin(t, c.want, p, p.Body[0])
		// Which statements p has is all the same.
		wantWithin(t, c.want, impl.Prog{Arrs: p.Arrs}, p.Body[0])
		if c.want && impl.Run(p, impl.MaxFuel).End != impl.EndGood {
			t.Errorf("%q does not end well", c.text)
		}
	}
}

func TestWithinOfArrays(t *testing.T) {
	s := loopParsed(t, "for i = 0 to 3 { a[i] = b[i]; }")
	for text, want := range map[string]bool{
		"array a 4; array b 4;": true, "array b 4; array a 4;": true, "array a 4; array b 5; array c 1;": true, "array a 16; array aa 1; array b 16;": true,
		"array a 3; array b 4;": false, "array a 4; array b 3;": false, "array b 3; array a 4; array c 16;": false,
		// One is left, or none.
		"array a 4;": false, "array b 4;": false, "array a 4; array c 4;": false, "array b 4; array c 4;": false, "": false, "array c 4;": false, "array aa 4; array bb 4;": false,
	} {
		wantWithin(t, want, parsed(t, text), s)
		wantWithin(t, true, parsed(t, text), loopParsed(t, "for i = 0 to 3 { x = i; }"))
	}
	// Each array is held against its own Size.
	for sizeA := 1; sizeA <= 6; sizeA++ {
		for sizeB := 1; sizeB <= 6; sizeB++ {
			p := progOf([]impl.Arr{{Name: "a", Size: sizeA}, {Name: "b", Size: sizeB}})
			wantWithin(t, sizeA >= 4 && sizeB >= 3, p, loopParsed(t, "for i = 0 to 2 { a[i + 1] = b[i]; }"))
			wantWithin(t, sizeA >= 2 && sizeB >= 5, p, loopParsed(t, "for i = 0 to 2 { x = a[1]; b[2 * i] = 1; }"))
		}
	}
}

func TestWithinOfNoRightProgram(t *testing.T) {
	s, nothing := loopParsed(t, "for i = 0 to 3 { a[i] = 1; }"), loopParsed(t, "for i = 0 to 3 { x = i; }")
	wantWithin(t, true, progOf(arrsOf("a", "b"), s), s)
	for _, p := range []impl.Prog{
		progOf(arrsOf("b", "a")), progOf(arrsOf("a", "a")), progOf([]impl.Arr{{Name: "a", Size: 17}}), progOf([]impl.Arr{{Name: "a", Size: 4}, {Name: "b"}}), progOf(arrsOf("a", "for")), progOf(arrsOf("a", "b", "c", "d", "e")),
		progOf(arrsOf("a"), setStmt("a", numExp(1))), progOf(arrsOf("a"), s, setStmt("i", numExp(1))), progOf(arrsOf("a"), impl.Stmt{}), progOf(arrsOf("a"), loopIn("i")), progOf(arrsOf("a"), slices.Repeat([]impl.Stmt{s}, 13)...),
	} {
		wantProg(t, false, p)
		wantWithin(t, false, p, s)
		wantWithin(t, false, p, nothing)
	}
	for _, text := range []string{"for i = 0 to 3 { a[x] = 1; }", "for i = 0 to 3 { print 1; }", "for i = 0 to x { a[1] = 1; }", "for i = 1 to 0 { a[1] = 1; }", "a[1] = 1;", "x = 1;"} {
		p := parsed(t, "array a 16;"+text)
		wantWithin(t, false, p, p.Body[0])
	}
	// The loop itself need not be one of a right program.
	wantWithin(t, true, progOf(arrsOf("a")), loopIn("i"))
	wantWithin(t, true, progOf(arrsOf("a")), loopIn("a", putStmt("a", varExp("a"), numExp(1)), setStmt("for", numExp(1))))
	wantWithin(t, false, progOf(arrsOf("a")), loopIn("i", putStmt("", varExp("i"), numExp(1))))
}

// boxTold and accsTold are a second way to what a loop asks and puts.
func boxTold(s impl.Stmt) ([]impl.Rng, bool) {
	lo, loOk := straightTold(s.Lo, nil)
	hi, hiOk := straightTold(s.Hi, nil)
	l := boxOf(rngOf(s.S, lo[""], hi[""]))
	if !loOk || !hiOk || lo[""] > hi[""] {
		return nil, false
	}
	for _, inner := range s.Body {
		if inner.K == impl.SFor {
			more, ok := boxTold(inner)
			if !ok {
				return nil, false
			}
			l = append(l, more...)
		}
	}
	return l, impl.BoxOk(l)
}

func accsTold(l []impl.Stmt, names []string, top int) ([]impl.Acc, bool) {
	var out []impl.Acc
	right := true
	add := func(name string, place impl.Exp, puts bool, stmt int) {
		told, ok := straightTold(place, names)
		right = right && ok
		out = append(out, impl.Acc{Name: name, F: told.aff(), Puts: puts, Stmt: stmt})
	}
	var ask func(e impl.Exp, stmt int)
	ask = func(e impl.Exp, stmt int) {
		for _, part := range e.L {
			ask(part, stmt)
		}
		if e.K == impl.EAt {
			add(e.S, e.L[0], false, stmt)
		}
	}
	for i, s := range l {
		stmt := top
		if top < 0 {
			stmt = i
		}
		if s.K == impl.SPut {
			ask(s.At, stmt)
		}
		if s.K != impl.SFor {
			ask(s.E, stmt)
		}
		if s.K == impl.SPut {
			add(s.S, s.At, true, stmt)
		}
		inner, ok := accsTold(s.Body, names, stmt)
		out, right = append(out, inner...), right && ok && s.K != impl.SPrint
	}
	return out, right
}

// touching makes the text of statements in loops of these names; of few of them what they touch cannot be told.
func (m *maker) touching(names []string, count int) string {
	place := func() string {
		if m.pick(60) == 0 {
			return []string{"x", "a[i]", "min(i, 1)", "q", "i * i"}[m.pick(5)]
		}
		name, other := names[m.pick(len(names))], names[m.pick(len(names))]
		return []string{name, name + " + 1", "3 - " + name, "2 * " + name, name + " + " + other, name + " - " + other + " + 2", "4", "0", "2 * (" + name + " + " + other + ") - 1", name + " - " + name, "1 - 2 * " + name}[m.pick(11)]
	}
	sum := func() string {
		sum := []string{"1", "x", "i"}[m.pick(3)]
		for range m.pick(4) {
			at := []string{"a", "b", "c"}[m.pick(3)] + "[" + place() + "]"
			sum = []string{sum + " + " + at, at + " * (" + sum + ")", "min(" + sum + ", " + at + ")", at + " - (" + sum + ")", "x"}[m.pick(5)]
		}
		return sum
	}
	var b strings.Builder
	for range count {
		switch kind := m.pick(60); {
		case kind == 0:
			b.WriteString("print " + sum() + "; ")
		case kind < 20:
			b.WriteString([]string{"x", "y"}[m.pick(2)] + " = " + sum() + "; ")
		case kind < 40 || len(names) == 3:
			b.WriteString([]string{"a", "b", "c"}[m.pick(3)] + "[" + place() + "] = " + sum() + "; ")
		default:
			b.WriteString(m.touchingLoop(names, 1+m.pick(3)))
		}
	}
	return b.String()
}

func (m *maker) touchingLoop(outer []string, count int) string {
	name := []string{"i", "j", "k", "l", "ij"}[len(outer)+m.pick(3)]
	lo := m.pick(5) - 2
	ends := fmt.Sprintf("%d - 2 to %d", lo+2, lo+m.pick(4))
	if lo < 0 {
		ends = fmt.Sprintf("0 - %d to %d", -lo, m.pick(3))
	}
	if m.pick(50) == 0 {
		ends = []string{"0 to x", "1 to 0", "i to 3", "0 to 10001"}[m.pick(4)]
	}
	return "for " + name + " = " + ends + " { " + m.touching(append(slices.Clone(outer), name), count) + "} "
}

// touched is one place that is touched, by which Stmt of a loop's Body.
type touched struct {
	array string
	place int
	puts  bool
	stmt  int
}

// touches does a Stmt at these Binds, writing down what it touches.
func touches(s impl.Stmt, binds []impl.Bind, stmt int, seen map[touched]int) {
	value := func(e impl.Exp) int {
		n, _ := impl.Eval(impl.Prog{}, impl.Sto{}, binds, e)
		return n
	}
	var ask func(e impl.Exp)
	ask = func(e impl.Exp) {
		for _, part := range e.L {
			ask(part)
		}
		if e.K == impl.EAt {
			seen[touched{e.S, value(e.L[0]), false, stmt}]++
		}
	}
	ask(s.At)
	ask(s.E)
	switch s.K {
	case impl.SPut:
		seen[touched{s.S, value(s.At), true, stmt}]++
	case impl.SFor:
		for n := value(s.Lo); n <= value(s.Hi); n++ {
			for _, inner := range s.Body {
				touches(inner, append(slices.Clone(binds), impl.Bind{Name: s.S, N: n}), stmt, seen)
			}
		}
	}
}

// wantAllTouched is the promise of the chapter: round by round, what is touched is just what is told; and where it is all within the arrays, that is told.
func wantAllTouched(t *testing.T, p impl.Prog, s impl.Stmt, box []impl.Rng, accs []impl.Acc) bool {
	t.Helper()
	within := true
	for round := box[0].Lo; round <= box[0].Hi; round++ {
		binds := []impl.Bind{{Name: s.S, N: round}}
		seen, told := map[touched]int{}, map[touched]int{}
		for stmt, inner := range s.Body {
			touches(inner, binds, stmt, seen)
		}
		for _, c := range accs {
			for _, way := range ways(box[1:]) {
				told[touched{c.Name, impl.AffAt(c.F, append(way, binds...)), c.Puts, c.Stmt}]++
			}
		}
		for what := range seen {
			if told[what] == 0 {
				t.Errorf("%v is touched and not told of %s", what, stmtText(s))
			}
			k := impl.ArrAt(p, what.array)
			within = within && 0 <= what.place && what.place < p.Arrs[k].Size
		}
		for what := range told {
			if seen[what] == 0 {
				t.Errorf("%v is told and not touched of %s", what, stmtText(s))
			}
		}
	}
	wantWithin(t, within, p, s)
	return within
}

// P10, of many loops at random: held against a second way, and against what they touch.
func TestTouchedIsTold(t *testing.T) {
	m := maker{seed: 100}
	counts := map[string]int{}
	for range 3000 {
		p, ok := impl.Parse("array a 4; array b 9; array c 16; " + m.touchingLoop(nil, 1+m.pick(4)))
		if !ok {
			continue
		}
		s := p.Body[0]
		box, ok := boxTold(s)
		if !ok {
			counts["no box"]++
			wantNoBox(t, s)
			continue
		}
		wantBox(t, s, box...)
		var names []string
		for _, r := range box {
			names = append(names, r.Name)
		}
		accs, ok := accsTold(s.Body, names, -1)
		if !ok {
			counts["no accs"]++
			wantNoAccs(t, s)
			continue
		}
		counts[fmt.Sprint("accs of ", len(box))]++
		wantAccs(t, s, accs...)
		if wantAllTouched(t, p, s, box, accs) {
			counts["within"]++
			if end := impl.Run(p, impl.MaxFuel).End; end == impl.EndTrap {
				t.Errorf("a place is not there in %s", impl.ProgText(p))
			}
		}
	}
	for what, least := range map[string]int{"no box": 150, "no accs": 150, "accs of 1": 300, "accs of 2": 200, "accs of 3": 100, "within": 100} {
		if counts[what] < least {
			t.Errorf("%v are too few to tell", counts)
		}
	}
}

// However deep or long an argument is, there is an answer.
func TestTouchedOfDeepArguments(t *testing.T) {
	const depth = 100000
	place := atExp("a", varExp("i"))
	deep, loops := place, setStmt("x", place)
	within := loops
	for range depth {
		deep, loops, within = twoExp(impl.EAdd, deep, numExp(1)), loopIn("i", loops), impl.Stmt{K: impl.SSet, Body: []impl.Stmt{within}}
	}
	for _, s := range []impl.Stmt{loops, loopIn("i", setStmt("x", atExp("a", deep))), loopIn("i", putStmt("a", deep, numExp(1))), forStmt("i", deep, numExp(1)), loopIn("i", forStmt("j", numExp(0), deep))} {
		if l, ok := impl.AccsOf(s); ok || len(l) != 0 {
			t.Error("what is too deep is told")
		}
	}
	for _, s := range []impl.Stmt{loopIn("i", setStmt("x", deep)), loopIn("i", within)} {
		if l, ok := impl.AccsOf(s); !ok || accsText(l) != accsText([]impl.Acc{asked("a", 0, 0, termOf("i", 1))}) {
			t.Error("what stands deep within is not told")
		}
	}
	round := loopIn("i", make([]impl.Stmt, 2)...)
	round.Body[0], round.Body[1] = round, round
	if l, ok := impl.BoxOf(round); ok || len(l) != 0 {
		t.Error("what stands in itself is a box")
	}
}

// Nothing is written into an argument or behind it, and an answer shares no memory with one, nor do two lists of it.
func TestTouchedIsNew(t *testing.T) {
	p := parsed(t, "array a 16; array b 16; for i = 0 to 2 { a[i] = b[i] + b[i + 1]; for j = 0 to 1 { a[i + j] = a[i]; } x = a[i] + a[i]; }")
	s := p.Body[0]
	body := append(slices.Clone(s.Body), loopIn("behind", printStmt(numExp(1))))
	s.Body = body[:3]
	text := func() string { return progText(p) + stmtText(impl.Stmt{Body: body}) }
	kept := text()
	wantBox(t, s, rngOf("i", 0, 2), rngOf("j", 0, 1))
	first, _ := impl.AccsOf(s)
	second, _ := impl.AccsOf(s)
	wantWithin(t, true, p, s)
	impl.ConstOf(s.Hi)
	if text() != kept {
		t.Fatal("an argument was written into")
	}
	if len(first) != 7 {
		t.Fatalf("%d Accs", len(first))
	}
	var sums [][]impl.Term
	for _, c := range append(slices.Clone(first), second...) {
		sums = append(sums, c.F.T)
	}
	wantOwnMemory(t, sums...)
	wantOwnMemory(t, first, second)
	told := accsText(second)
	for i := range first {
		for k := range first[i].F.T {
			first[i].F.T[k] = termOf("q", 9)
		}
		first[i] = impl.Acc{}
	}
	box, _ := impl.BoxOf(s)
	box[0] = impl.Rng{}
	third, _ := impl.AccsOf(s)
	if accsText(second) != told || accsText(third) != told || text() != kept {
		t.Error("an answer is kept, or shares memory")
	}
}
