package tests

import (
	"slices"
	"strconv"
	"strings"
	"testing"

	"loop.example/g00476/impl"
)

func arrsOf(names ...string) []impl.Arr {
	var l []impl.Arr
	for _, name := range names {
		l = append(l, impl.Arr{Name: name, Size: 4})
	}
	return l
}

func progOf(arrs []impl.Arr, body ...impl.Stmt) impl.Prog {
	return impl.Prog{Arrs: arrs, Body: body}
}

// loopIn is a loop from 0 to 3.
func loopIn(name string, body ...impl.Stmt) impl.Stmt {
	return forStmt(name, numExp(0), numExp(3), body...)
}

// progText is of two just then the same text when all their parts are the same.
func progText(p impl.Prog) string {
	var b strings.Builder
	for _, a := range p.Arrs {
		b.WriteString(strconv.Quote(a.Name) + strconv.Itoa(a.Size) + " ")
	}
	return b.String() + stmtText(impl.Stmt{Body: p.Body})
}

func copyProg(p impl.Prog) impl.Prog {
	return impl.Prog{Arrs: slices.Clone(p.Arrs), Body: copyStmt(impl.Stmt{Body: p.Body}).Body}
}

func wantProg(t *testing.T, want bool, p impl.Prog) {
	t.Helper()
	if impl.ProgOk(p) != want {
		t.Errorf("ProgOk of %.400s is %v", progText(p), !want)
	}
	if want {
		wantOneThing(t, p)
	}
}

// use is where a name stands: what it is told to be there, and the loops around.
type use struct {
	name   string
	as     string
	around []string
}

// usesOf writes down, from the front, every place where a name stands in l.
func usesOf(l []impl.Stmt, around []string) []use {
	var out []use
	for _, s := range l {
		for _, e := range []impl.Exp{s.At, s.E, s.Lo, s.Hi} {
			out = append(out, usesOfExp(e, around)...)
		}
		switch s.K {
		case impl.SSet:
			out = append(out, use{s.S, "set", around})
		case impl.SPut:
			out = append(out, use{s.S, "put", around})
		case impl.SFor:
			out = append(out, use{s.S, "loop", around})
		}
		out = append(out, usesOf(s.Body, append(slices.Clone(around), s.S))...)
	}
	return out
}

func usesOfExp(e impl.Exp, around []string) []use {
	var out []use
	switch e.K {
	case impl.EVar:
		out = append(out, use{e.S, "asked", around})
	case impl.EAt:
		out = append(out, use{e.S, "at", around})
	}
	for _, part := range e.L {
		out = append(out, usesOfExp(part, around)...)
	}
	return out
}

// namesAs are the names of l that stand there as told, sorted, none twice.
func namesAs(l []impl.Stmt, as string) []string {
	var out []string
	for _, u := range usesOf(l, nil) {
		if u.as == as {
			out = append(out, u.name)
		}
	}
	slices.Sort(out)
	return slices.Compact(out)
}

func inCommon(a, b []string) bool {
	return slices.ContainsFunc(a, func(s string) bool { return slices.Contains(b, s) })
}

// namesRight tells of a program that is right but for its names whether these are right, name against name.
func namesRight(p impl.Prog) bool {
	var arrs []string
	for _, a := range p.Arrs {
		arrs = append(arrs, a.Name)
	}
	set, loops := namesAs(p.Body, "set"), namesAs(p.Body, "loop")
	if inCommon(arrs, set) || inCommon(arrs, loops) || inCommon(set, loops) || inCommon(arrs, namesAs(p.Body, "asked")) || len(set) > 6 {
		return false
	}
	for _, u := range usesOf(p.Body, nil) {
		if (u.as == "at" || u.as == "put") && !slices.Contains(arrs, u.name) {
			return false
		}
		if u.as == "loop" && slices.Contains(u.around, u.name) {
			return false
		}
	}
	return true
}

// wantOneThing is the promise of the chapter, told by the program's own lists.
func wantOneThing(t *testing.T, p impl.Prog) {
	t.Helper()
	vars, loops, asked := impl.VarsOf(p.Body), impl.LoopVars(p.Body), impl.Asked(p.Body)
	for i, a := range p.Arrs {
		if slices.Contains(vars, a.Name) || slices.Contains(loops, a.Name) || slices.Contains(asked, a.Name) {
			t.Errorf("the array %s is something else too in %.400s", a.Name, progText(p))
		}
		if impl.ArrAt(p, a.Name) != i {
			t.Errorf("the array %s is not at %d in %.400s", a.Name, i, progText(p))
		}
	}
	for _, name := range vars {
		if slices.Contains(loops, name) {
			t.Errorf("%s is set and a loop's name in %.400s", name, progText(p))
		}
	}
	for _, u := range usesOf(p.Body, nil) {
		if (u.as == "at" || u.as == "put") && impl.ArrAt(p, u.name) < 0 {
			t.Errorf("%s is no array in %.400s", u.name, progText(p))
		}
	}
}

// wantNames holds the three lists of l against what stands there.
func wantNames(t *testing.T, l []impl.Stmt) {
	t.Helper()
	for _, c := range []struct {
		call string
		got  []string
		as   string
	}{{"VarsOf", impl.VarsOf(l), "set"}, {"LoopVars", impl.LoopVars(l), "loop"}, {"Asked", impl.Asked(l), "asked"}} {
		if want := namesAs(l, c.as); !slices.Equal(c.got, want) {
			t.Errorf("%s of %.400s is %q, not %q", c.call, stmtText(impl.Stmt{Body: l}), c.got, want)
		}
	}
}

func wantLists(t *testing.T, l []impl.Stmt, vars, loops, asked []string) {
	t.Helper()
	wantNames(t, l)
	if got := impl.VarsOf(l); !slices.Equal(got, vars) {
		t.Errorf("VarsOf is %q, not %q", got, vars)
	}
	if got := impl.LoopVars(l); !slices.Equal(got, loops) {
		t.Errorf("LoopVars is %q, not %q", got, loops)
	}
	if got := impl.Asked(l); !slices.Equal(got, asked) {
		t.Errorf("Asked is %q, not %q", got, asked)
	}
}

func TestArrAt(t *testing.T) {
	p := progOf(arrsOf("a", "b", "cc", "d"))
	twice := progOf(arrsOf("b", "a", "b", "", "a"))
	for _, c := range []struct {
		p    impl.Prog
		name string
		want int
	}{
		{p, "a", 0}, {p, "b", 1}, {p, "cc", 2}, {p, "d", 3},
		{p, "e", -1}, {p, "c", -1}, {p, "ccc", -1}, {p, "A", -1}, {p, "", -1}, {p, "a ", -1}, {p, "\xff", -1},
		{impl.Prog{}, "a", -1}, {impl.Prog{}, "", -1}, {progOf([]impl.Arr{}), "a", -1},
		{progOf(arrsOf("a")), "a", 0}, {progOf(arrsOf("a")), "b", -1},
		// Wrong ones are looked through as they stand: the first of two of one name, and an empty one.
		{twice, "b", 0}, {twice, "a", 1}, {twice, "", 3}, {twice, "c", -1},
		{progOf([]impl.Arr{{Name: "a"}, {Name: "for", Size: -1}}), "for", 1},
		{progOf(slices.Repeat(arrsOf("x"), 30)), "x", 0},
		{progOf(arrsOf("a", "b", "c")[:2]), "c", -1},
		// Only Arrs are looked through.
		{progOf(arrsOf("a"), setStmt("x", varExp("y")), putStmt("b", numExp(0), numExp(1)), loopIn("i", printStmt(numExp(1)))), "x", -1},
		{progOf(arrsOf("a"), putStmt("b", numExp(0), numExp(1))), "b", -1},
	} {
		if got := impl.ArrAt(c.p, c.name); got != c.want {
			t.Errorf("ArrAt of %s and %q is %d, not %d", progText(c.p), c.name, got, c.want)
		}
	}
}

func TestListsOfNames(t *testing.T) {
	x, y := varExp("x"), varExp("y")
	wantLists(t, nil, nil, nil, nil)
	wantLists(t, []impl.Stmt{}, nil, nil, nil)
	wantLists(t, []impl.Stmt{printStmt(numExp(1))}, nil, nil, nil)
	wantLists(t, []impl.Stmt{setStmt("x", numExp(1))}, []string{"x"}, nil, nil)
	wantLists(t, []impl.Stmt{printStmt(x)}, nil, nil, []string{"x"})
	wantLists(t, []impl.Stmt{loopIn("i", printStmt(numExp(1)))}, nil, []string{"i"}, nil)
	// What is put is an array's name; so is that of a place that is asked.
	wantLists(t, []impl.Stmt{putStmt("a", numExp(0), atExp("b", numExp(1)))}, nil, nil, nil)
	wantLists(t, []impl.Stmt{putStmt("a", x, atExp("b", y))}, nil, nil, []string{"x", "y"})
	// In order of the names, not of the text; a beginning is ahead of what goes on; each once.
	wantLists(t, []impl.Stmt{
		setStmt("z", varExp("q")), setStmt("ab", varExp("p")), setStmt("a", varExp("pp")), setStmt("b", varExp("q")), setStmt("z", varExp("p")), setStmt("aaa", numExp(1)),
		loopIn("n", printStmt(numExp(1))), loopIn("m", printStmt(numExp(1))), loopIn("mm", printStmt(numExp(1))), loopIn("n", printStmt(numExp(1))),
	}, []string{"a", "aaa", "ab", "b", "z"}, []string{"m", "mm", "n"}, []string{"p", "pp", "q"})
}

func TestListsOfNamesWithinBodies(t *testing.T) {
	deepest := forStmt("k", varExp("e"), varExp("f"), setStmt("w", varExp("g")), putStmt("a", varExp("h"), atExp("a", varExp("i"))), setStmt("u", numExp(1)))
	middle := forStmt("j", numExp(0), varExp("d"), setStmt("x", varExp("j")), deepest, setStmt("v", varExp("x")))
	top := forStmt("i", varExp("c"), numExp(1), middle, printStmt(varExp("b")))
	wantLists(t, []impl.Stmt{deepest}, []string{"u", "w"}, []string{"k"}, []string{"e", "f", "g", "h", "i"})
	wantLists(t, []impl.Stmt{middle}, []string{"u", "v", "w", "x"}, []string{"j", "k"}, []string{"d", "e", "f", "g", "h", "i", "j", "x"})
	wantLists(t, []impl.Stmt{setStmt("y", varExp("y")), top, loopIn("l", top, top)},
		[]string{"u", "v", "w", "x", "y"}, []string{"i", "j", "k", "l"}, []string{"b", "c", "d", "e", "f", "g", "h", "i", "j", "x", "y"})
	// Behind the list nothing is looked at.
	wantLists(t, []impl.Stmt{setStmt("x", numExp(1)), deepest}[:1], []string{"x"}, nil, nil)
	short := middle
	short.Body = middle.Body[:1]
	wantLists(t, []impl.Stmt{short}, []string{"x"}, []string{"j"}, []string{"d", "j"})
}

// Asked looks into each Exp of a Stmt, and as deep as it goes.
func TestAskedInEachExp(t *testing.T) {
	for field, reach := range expFields {
		for k := -1; k <= 5; k++ {
			for _, e := range []impl.Exp{
				varExp("q"), atExp("a", varExp("q")), atExp("q", atExp("a", varExp("q"))),
				twoExp(impl.EAdd, varExp("q"), numExp(1)), twoExp(impl.EMax, numExp(1), varExp("q")),
				twoExp(impl.EMul, atExp("a", twoExp(impl.ESub, numExp(1), varExp("q"))), numExp(1)),
			} {
				s := impl.Stmt{K: k, S: "s"}
				*reach(&s) = e
				for _, l := range [][]impl.Stmt{{s}, {loopIn("i", s)}, {{K: k, Body: []impl.Stmt{{}, s}}}} {
					wantNames(t, l)
					if got := impl.Asked(l); !slices.Equal(got, []string{"q"}) {
						t.Errorf("Asked of %s in %s is %q", expText(e), field, got)
					}
				}
			}
		}
	}
	wantLists(t, []impl.Stmt{{K: impl.SFor, S: "i", At: varExp("d"), E: varExp("c"), Lo: varExp("b"), Hi: varExp("a")}}, nil, []string{"i"}, []string{"a", "b", "c", "d"})
	wantLists(t, []impl.Stmt{printStmt(atExp("a", numExp(1)))}, nil, nil, nil)
}

// The lists look at all parts, whatever their kind names, and take names as they stand there.
func TestListsOfNamesOfUnnamedParts(t *testing.T) {
	set := setStmt("x", varExp("y"))
	loop := loopIn("i", set)
	for k := -1; k <= 6; k++ {
		s := impl.Stmt{K: k, S: "s", At: varExp("a"), E: varExp("e"), Lo: varExp("l"), Hi: varExp("h"), Body: []impl.Stmt{set, loop}}
		wantNames(t, []impl.Stmt{s})
		wantNames(t, []impl.Stmt{{K: k, Body: []impl.Stmt{{K: k, Body: []impl.Stmt{s}}}}})
		vars, loops := []string{"x"}, []string{"i"}
		if k == impl.SSet {
			vars = []string{"s", "x"}
		}
		if k == impl.SFor {
			loops = []string{"i", "s"}
		}
		wantLists(t, []impl.Stmt{s}, vars, loops, []string{"a", "e", "h", "l", "y"})
	}
	for k := -1; k <= 10; k++ {
		e := impl.Exp{K: k, N: 5, S: "s", L: []impl.Exp{varExp("x"), {K: k, L: []impl.Exp{{}, varExp("y")}}, numExp(1)}}
		want := []string{"x", "y"}
		if k == impl.EVar {
			want = []string{"", "s", "x", "y"}
		}
		wantNames(t, []impl.Stmt{printStmt(e)})
		if got := impl.Asked([]impl.Stmt{printStmt(e)}); !slices.Equal(got, want) {
			t.Errorf("Asked of %s is %q, not %q", expText(e), got, want)
		}
	}
	wantLists(t, []impl.Stmt{setStmt("for", varExp("MAX")), setStmt("", varExp("")), setStmt("\xff", varExp("é")), setStmt("muchtoolong", numExp(1)), loopIn("2"), loopIn("")},
		[]string{"", "for", "muchtoolong", "\xff"}, []string{"", "2"}, []string{"", "MAX", "é"})
}

// The kinds with every choice of other kinds beneath, held against what stands there.
func TestListsOfNamesOfManyPrograms(t *testing.T) {
	for _, p := range manyProgs() {
		wantNames(t, p.Body)
	}
	for _, s := range append(stmtKinds(), loopOf(39)) {
		for _, other := range otherStmts(s) {
			wantNames(t, []impl.Stmt{other})
		}
	}
}

func TestListsOfNamesAreNew(t *testing.T) {
	l := []impl.Stmt{setStmt("x", varExp("y")), setStmt("w", varExp("z")), loopIn("i", loopIn("j", printStmt(numExp(1))))}
	kept := stmtText(impl.Stmt{Body: l})
	for _, call := range []func([]impl.Stmt) []string{impl.VarsOf, impl.LoopVars, impl.Asked} {
		first, second := call(l), call(l)
		want := slices.Clone(second)
		for i := range first {
			first[i] = "other"
		}
		_ = append(first[:1], "other")
		if !slices.Equal(second, want) || !slices.Equal(call(l), want) {
			t.Error("two answers share a list")
		}
	}
	if stmtText(impl.Stmt{Body: l}) != kept {
		t.Error("an answer is a part of an argument")
	}
}

func TestProgOkOfNothing(t *testing.T) {
	wantProg(t, true, impl.Prog{})
	wantProg(t, true, impl.Prog{Arrs: []impl.Arr{}, Body: []impl.Stmt{}})
	wantProg(t, true, progOf(arrsOf("a")))
	wantProg(t, true, progOf(nil, printStmt(numExp(1))))
}

func TestProgOkOrdinary(t *testing.T) {
	a := arrsOf("a", "b")
	i, j := varExp("i"), varExp("j")
	for _, s := range stmtKinds() {
		wantProg(t, true, progOf(a, s))
		wantProg(t, true, progOf(a, s, s))
		wantProg(t, true, progOf(a, loopIn("k", s, s)))
		wantProg(t, true, progOf(a, loopIn("k", loopIn("l", s)), s))
	}
	wantProg(t, true, progOf(a, stmtKinds()...))
	for _, e := range expKinds() {
		wantProg(t, true, progOf(a, setStmt("s", e), putStmt("b", e, e), forStmt("i", e, e, printStmt(e)), printStmt(e)))
	}
	wantProg(t, true, progOf(a,
		setStmt("n", numExp(3)),
		forStmt("i", numExp(0), varExp("n"), putStmt("a", i, twoExp(impl.EMul, i, i)), setStmt("s", twoExp(impl.EAdd, varExp("s"), atExp("a", i)))),
		forStmt("i", numExp(0), varExp("n"), forStmt("j", i, varExp("n"), putStmt("b", j, atExp("a", twoExp(impl.ESub, j, i))))),
		printStmt(atExp("b", atExp("a", varExp("s"))))))
	// A name that is never set may be asked; a loop's name behind and ahead of it, and in its own Lo and Hi, too.
	wantProg(t, true, progOf(nil, printStmt(varExp("x")), printStmt(i), forStmt("i", i, i, printStmt(i)), setStmt("x", i)))
}

func TestProgOkArrs(t *testing.T) {
	names := []string{"a", "b", "c", "d", "e", "f"}
	for count := range 7 {
		wantProg(t, count <= 4, progOf(arrsOf(names[:count]...)))
		wantProg(t, count <= 4, progOf(arrsOf(names[:count]...), setStmt("x", numExp(1))))
	}
	for _, size := range []int{-1 << 63, -17, -1, 0, 1, 2, 15, 16, 17, 18, 256 + 1, 1<<32 + 1, 1<<63 - 1} {
		want := 1 <= size && size <= 16
		for at := range 4 {
			wantProg(t, want, progOf(replaced(arrsOf(names[:4]...), at, impl.Arr{Name: names[at], Size: size})))
		}
		wantProg(t, want, progOf([]impl.Arr{{Name: "a", Size: size}}))
	}
	for i, l := range [][]string{rightNames, wrongNames} {
		for _, name := range l {
			wantProg(t, i == 0, progOf(arrsOf(name)))
			wantProg(t, false, progOf(arrsOf(name, name)))
		}
	}
	wantProg(t, false, progOf(arrsOf("a", "for")))
	wantProg(t, false, progOf(arrsOf("", "a")))
	wantProg(t, false, progOf([]impl.Arr{{}}))
}

// All lists of up to 4 of some names: right are those that ascend.
func TestProgOkArrsAscend(t *testing.T) {
	names := []string{"a", "aa", "ab", "b"}
	var goOn func(l []string)
	goOn = func(l []string) {
		ascend := true
		for i := 1; i < len(l); i++ {
			ascend = ascend && strings.Compare(l[i-1], l[i]) < 0
		}
		wantProg(t, ascend, progOf(arrsOf(l...)))
		if len(l) == 4 {
			return
		}
		for _, name := range names {
			goOn(append(slices.Clone(l), name))
		}
	}
	goOn(nil)
	wantProg(t, true, progOf(arrsOf("z", "za", "zz", "zzzzzz")))
	wantProg(t, false, progOf(arrsOf("za", "z")))
}

func TestProgOkBody(t *testing.T) {
	for _, s := range append(stmtKinds(), loopIn("i", setStmt("x", numExp(1)))) {
		for _, count := range []int{0, 1, 2, 11, 12, 13, 14, 40, 500} {
			wantProg(t, count <= 12, progOf(arrsOf("a"), slices.Repeat([]impl.Stmt{s}, count)...))
		}
	}
}

// Each Stmt must be right, wherever it stands.
func TestProgOkStmts(t *testing.T) {
	good := printStmt(varExp("x"))
	for _, wrong := range []impl.Stmt{
		{}, {K: 5}, {K: -1}, {K: impl.SFor + 1<<32}, setStmt("for", numExp(1)), setStmt("x", impl.Exp{}), setStmt("x", numExp(1000000)), putStmt("a", impl.Exp{}, numExp(1)),
		loopIn("i"), loopIn("", good), loopIn("i", slices.Repeat([]impl.Stmt{good}, 7)...), {K: impl.SPrint, S: "x", E: numExp(1)},
		{K: impl.SSet, S: "x", E: numExp(1), Lo: varExp("a")}, {K: impl.SSet, S: "x", E: numExp(1), Body: []impl.Stmt{good}},
		printStmt(deepExps(9)[0]), printStmt(expOfCount(61)), {K: impl.SPrint, E: varExp("x"), Hi: numExp(0)},
	} {
		for at := range 12 {
			wantProg(t, false, progOf(arrsOf("a"), replaced(slices.Repeat([]impl.Stmt{good}, 12), at, wrong)...))
		}
		wantProg(t, false, progOf(arrsOf("a"), wrong))
		wantProg(t, false, progOf(arrsOf("a"), loopIn("k", good, wrong)))
	}
	wantProg(t, true, progOf(arrsOf("a"), printStmt(deepExps(8)[0]), printStmt(expOfCount(60))))
}

func TestProgOkLoopsWithinEachOther(t *testing.T) {
	s := printStmt(numExp(1))
	for depth, name := range []string{"i", "j", "k", "l", "m"} {
		s = loopIn(name, s)
		wantProg(t, depth < 3, progOf(nil, s))
		wantProg(t, depth < 3, progOf(nil, setStmt("x", numExp(1)), s, s))
	}
}

func TestProgOkCount(t *testing.T) {
	one := printStmt(numExp(1))
	for count := 1; count <= 39; count++ {
		loop := loopOf(count - 1)
		if count == 1 {
			loop = one
		}
		for beside := range 12 {
			body := append([]impl.Stmt{loop}, slices.Repeat([]impl.Stmt{one}, beside)...)
			wantProg(t, count+beside <= 40, progOf(nil, body...))
			slices.Reverse(body)
			wantProg(t, count+beside <= 40, progOf(nil, body...))
		}
	}
	wantProg(t, true, progOf(nil, loopOf(39)))
	wantProg(t, false, progOf(nil, loopOf(40)))
	// Each by itself is well within, all of them are 40, and then one more.
	wantProg(t, true, progOf(nil, loopOf(19), loopOf(19)))
	wantProg(t, false, progOf(nil, loopOf(19), loopOf(20)))
	wantProg(t, true, progOf(nil, slices.Repeat([]impl.Stmt{loopOf(3)}, 10)...))
	wantProg(t, false, progOf(nil, append(slices.Repeat([]impl.Stmt{loopOf(3)}, 10), one)...))
	wantProg(t, false, progOf(nil, slices.Repeat([]impl.Stmt{loopOf(35)}, 12)...))
}

func TestProgOkVars(t *testing.T) {
	names := []string{"g", "f", "e", "d", "c", "b", "a"}
	for count := range len(names) + 1 {
		var flat []impl.Stmt
		for _, name := range names[:count] {
			flat = append(flat, setStmt(name, numExp(1)))
		}
		wantProg(t, count <= 6, progOf(nil, flat...))
		if count < 2 {
			continue
		}
		// Set within loops they count as well, and those that are set again count once.
		wantProg(t, count <= 6, progOf(nil, loopIn("i", flat[:1]...), loopIn("j", loopIn("i", flat[1:]...))))
		wantProg(t, count <= 6, progOf(nil, append(flat[:count-1:count-1], loopIn("i", loopIn("j", flat[count-1])))...))
		wantProg(t, count <= 6, progOf(nil, append(flat[:count:count], flat[:2]...)...))
	}
	// Names that are asked, of loops, or of arrays do not count.
	six := []impl.Stmt{}
	for i, name := range names[:6] {
		six = append(six, setStmt(name, varExp("q"+names[i])))
	}
	wantProg(t, true, progOf(arrsOf("s", "t"), append(six, loopIn("i", loopIn("j", printStmt(varExp("z")), putStmt("s", varExp("r"), atExp("t", varExp("i"))))))...))
}

// A name of Arrs is set, asked as EVar, or of a SFor: at the top, in each Exp, and within loops.
func TestProgOkArrayIsSomethingElse(t *testing.T) {
	for _, name := range []string{"a", "b"} {
		as := varExp(name)
		wrong := []impl.Stmt{setStmt(name, numExp(1)), loopIn(name, printStmt(numExp(1))), loopIn(name, setStmt("x", numExp(1)))}
		for _, e := range []impl.Exp{as, atExp("a", as), atExp(name, as), twoExp(impl.EAdd, as, numExp(1)), twoExp(impl.EMin, numExp(1), as), twoExp(impl.ESub, atExp(name, numExp(0)), atExp("b", twoExp(impl.EMul, numExp(1), as)))} {
			wrong = append(wrong, setStmt("x", e), putStmt(name, e, numExp(1)), putStmt(name, numExp(1), e), printStmt(e),
				forStmt("i", e, numExp(1), printStmt(numExp(1))), forStmt("i", numExp(1), e, printStmt(numExp(1))))
		}
		for _, s := range wrong {
			for _, arrs := range [][]impl.Arr{arrsOf("a", "b"), arrsOf("a", "b", "c", "d")} {
				wantProg(t, false, progOf(arrs, s))
				wantProg(t, false, progOf(arrs, printStmt(numExp(1)), s))
				wantProg(t, false, progOf(arrs, s, printStmt(numExp(1))))
				wantProg(t, false, progOf(arrs, loopIn("k", s)))
				wantProg(t, false, progOf(arrs, loopIn("k", printStmt(numExp(1)), loopIn("l", s))))
			}
		}
	}
	// Without the arrays these names are free.
	wantProg(t, true, progOf(nil, setStmt("a", varExp("b")), printStmt(varExp("a"))))
	wantProg(t, true, progOf(nil, forStmt("a", varExp("b"), varExp("a"), printStmt(varExp("a")))))
	// A name that only begins as an array's is another one.
	wantProg(t, true, progOf(arrsOf("a"), setStmt("aa", numExp(1)), loopIn("ab", printStmt(varExp("b")))))
}

// A name of a SFor is set: within it, behind it, ahead of it, and in another loop.
func TestProgOkLoopNameIsSet(t *testing.T) {
	set, other := setStmt("i", numExp(1)), setStmt("x", varExp("i"))
	loop := loopIn("i", other)
	for _, p := range []impl.Prog{
		progOf(nil, loopIn("i", set)),
		progOf(nil, loopIn("i", other, set)),
		progOf(nil, loopIn("i", loopIn("j", set))),
		progOf(nil, loopIn("i", loopIn("j", loopIn("k", set, other)))),
		progOf(nil, loopIn("j", loopIn("i", other), set)),
		progOf(nil, loopIn("j", set, loopIn("i", other))),
		progOf(nil, loop, set),
		progOf(nil, set, loop),
		progOf(nil, set, other, other, loop),
		progOf(nil, loop, loopIn("j", other), set),
		progOf(nil, loop, loopIn("j", set)),
		progOf(nil, loopIn("j", set), loop),
		progOf(nil, loopIn("j", loopIn("k", loop)), loopIn("k", set)),
		progOf(nil, loopIn("j", loopIn("k", set)), loopIn("k", loop)),
	} {
		wantProg(t, false, p)
		// With another name in place of the one that is set all is well.
		text := progText(p)
		q := copyProg(p)
		renameSet(q.Body, "i", "y")
		wantProg(t, true, q)
		if progText(p) != text {
			t.Fatal("the copy was none")
		}
	}
}

func renameSet(l []impl.Stmt, from, to string) {
	for i := range l {
		if l[i].K == impl.SSet && l[i].S == from {
			l[i].S = to
		}
		renameSet(l[i].Body, from, to)
	}
}

// A SFor within one of the same name is wrong, however far within; beside it it is not.
func TestProgOkLoopNamesAgain(t *testing.T) {
	done := printStmt(varExp("i"))
	for _, body := range [][]impl.Stmt{
		{loopIn("i", loopIn("i", done))},
		{loopIn("i", done, loopIn("i", done))},
		{loopIn("i", loopIn("j", loopIn("i", done)))},
		{loopIn("j", loopIn("i", loopIn("i", done)))},
		{loopIn("i", loopIn("j", loopIn("j", done)))},
		{loopIn("i", loopIn("j", done), loopIn("i", done))},
		{loopIn("i", loopIn("j", loopIn("k", done)), loopIn("j", loopIn("i", done)))},
		{loopIn("i", done), loopIn("i", loopIn("i", done))},
	} {
		wantProg(t, false, progOf(nil, body...))
	}
	for _, body := range [][]impl.Stmt{
		{loopIn("i", done), loopIn("i", done)},
		{loopIn("i", done), done, loopIn("i", done), loopIn("i", done)},
		{loopIn("j", loopIn("i", done), loopIn("i", done))},
		{loopIn("j", loopIn("i", done)), loopIn("i", loopIn("j", done))},
		{loopIn("i", loopIn("j", loopIn("k", done), loopIn("k", done)), loopIn("k", loopIn("j", done)))},
		{loopIn("i", loopIn("j", done), loopIn("j", done)), loopIn("j", loopIn("i", done)), loopIn("i", done)},
	} {
		wantProg(t, true, progOf(nil, body...))
	}
}

// An array that is asked or put, and is none of Arrs.
func TestProgOkNoSuchArray(t *testing.T) {
	at := atExp("c", numExp(0))
	wrong := []impl.Stmt{putStmt("c", numExp(0), numExp(1))}
	for _, e := range []impl.Exp{at, atExp("a", at), atExp("c", atExp("a", numExp(0))), twoExp(impl.EAdd, at, numExp(1)), twoExp(impl.EMax, numExp(1), atExp("b", twoExp(impl.EMul, numExp(1), at)))} {
		wrong = append(wrong, setStmt("x", e), putStmt("a", e, numExp(1)), putStmt("a", numExp(1), e), printStmt(e),
			forStmt("i", e, numExp(1), printStmt(numExp(1))), forStmt("i", numExp(1), e, printStmt(numExp(1))))
	}
	for _, s := range wrong {
		for _, arrs := range [][]impl.Arr{nil, arrsOf("a", "b"), arrsOf("a", "b", "cc", "d"), arrsOf("a", "b", "d", "e")} {
			wantProg(t, false, progOf(arrs, s))
			wantProg(t, false, progOf(arrs, loopIn("k", loopIn("l", s))))
			wantProg(t, false, progOf(arrs, printStmt(numExp(1)), s))
		}
		for _, arrs := range [][]impl.Arr{arrsOf("a", "b", "c"), arrsOf("a", "b", "c", "d")} {
			wantProg(t, true, progOf(arrs, s))
			wantProg(t, true, progOf(arrs, loopIn("k", loopIn("l", s))))
		}
	}
	// What is set, or a loop's name, is no array.
	wantProg(t, false, progOf(nil, setStmt("x", numExp(1)), printStmt(atExp("x", numExp(0)))))
	wantProg(t, false, progOf(nil, setStmt("x", numExp(1)), putStmt("x", numExp(0), numExp(1))))
	wantProg(t, false, progOf(nil, loopIn("i", printStmt(atExp("i", numExp(0))))))
	wantProg(t, false, progOf(nil, loopIn("i", putStmt("i", numExp(0), numExp(1)))))
	wantProg(t, false, progOf(nil, putStmt("x", numExp(0), numExp(1)), setStmt("x", numExp(1))))
}

// manyProgs are all programs of three Stmts of some, the second and third beside or within loops, with several Arrs.
func manyProgs() []impl.Prog {
	leaves := []impl.Stmt{
		setStmt("x", varExp("y")), setStmt("a", numExp(1)), setStmt("i", varExp("x")),
		putStmt("a", varExp("i"), numExp(1)), putStmt("x", numExp(0), varExp("a")),
		printStmt(atExp("a", varExp("x"))), printStmt(atExp("i", numExp(0))),
	}
	heads := []impl.Stmt{loopIn("i"), loopIn("x"), loopIn("a"), forStmt("j", varExp("i"), atExp("a", numExp(0)))}
	with := func(s impl.Stmt, body ...impl.Stmt) impl.Stmt {
		s.Body = body
		return s
	}
	var bodies [][]impl.Stmt
	for _, one := range leaves {
		bodies = append(bodies, []impl.Stmt{one})
		for _, head := range heads {
			bodies = append(bodies, []impl.Stmt{with(head, one)})
			for _, other := range leaves {
				bodies = append(bodies, []impl.Stmt{with(head, one, other)}, []impl.Stmt{with(head, one), other}, []impl.Stmt{other, with(head, one)})
			}
			for _, inner := range heads {
				bodies = append(bodies, []impl.Stmt{with(head, with(inner, one))}, []impl.Stmt{with(head, one), with(inner, one)}, []impl.Stmt{with(head, one, with(inner, one))})
				for _, last := range heads {
					bodies = append(bodies, []impl.Stmt{with(head, with(inner, with(last, one)))}, []impl.Stmt{with(head, with(inner, one), with(last, one))}, []impl.Stmt{with(head, with(inner, one)), with(last, one)})
				}
			}
		}
	}
	var progs []impl.Prog
	for _, body := range bodies {
		for _, arrs := range [][]impl.Arr{nil, arrsOf("a"), arrsOf("a", "i"), arrsOf("b", "x")} {
			progs = append(progs, progOf(arrs, body...))
		}
	}
	return progs
}

// Each of many programs, right but for their names, held against what stands where.
func TestProgOkOfManyPrograms(t *testing.T) {
	right, wrong := 0, 0
	for _, p := range manyProgs() {
		want := namesRight(p)
		wantProg(t, want, p)
		if want {
			right++
		} else {
			wrong++
		}
	}
	if right < 200 || wrong < 2000 {
		t.Errorf("%d right ones and %d wrong ones are too few to tell", right, wrong)
	}
}

// Nothing is written into an argument, nor behind it, right or wrong.
func TestCheckedIsNotWritten(t *testing.T) {
	arrRoom := append(arrsOf("b", "a"), impl.Arr{Name: "behind", Size: 3})
	expRoom := []impl.Exp{varExp("x"), atExp("b", numExp(0)), varExp("behind")}
	e := impl.Exp{K: impl.EAdd, L: expRoom[:2]}
	bodyRoom := []impl.Stmt{setStmt("z", e), setStmt("y", e), setStmt("behind", e)}
	loop := forStmt("i", e, e)
	loop.Body = bodyRoom[:2]
	topRoom := []impl.Stmt{loop, setStmt("x", e), setStmt("behind", e)}
	text := func() string {
		return progText(impl.Prog{Arrs: arrRoom, Body: topRoom}) + stmtText(impl.Stmt{Body: bodyRoom}) + expText(impl.Exp{L: expRoom})
	}
	kept := text()
	for count := range 3 {
		p := impl.Prog{Arrs: arrRoom[:count], Body: topRoom[:2]}
		wantProg(t, count == 1, p)
		impl.ArrAt(p, "b")
		wantLists(t, p.Body, []string{"x", "y", "z"}, []string{"i"}, []string{"x"})
		if text() != kept {
			t.Fatal("an argument was written into")
		}
	}
}

// However deep an argument is, there is an answer.
func TestChecksOfDeepArguments(t *testing.T) {
	const depth = 100000
	e, s := varExp("y"), setStmt("x", varExp("z"))
	for range depth {
		e, s = atExp("a", e), loopIn("i", s)
	}
	l := []impl.Stmt{s, printStmt(e)}
	for _, c := range []struct {
		got, want []string
	}{{impl.VarsOf(l), []string{"x"}}, {impl.LoopVars(l), []string{"i"}}, {impl.Asked(l), []string{"y", "z"}}} {
		if !slices.Equal(c.got, c.want) {
			t.Errorf("%q in place of %q", c.got, c.want)
		}
	}
	if impl.ProgOk(progOf(nil, s)) || impl.ProgOk(progOf(arrsOf("a"), printStmt(e))) || impl.ProgOk(progOf(nil, slices.Repeat([]impl.Stmt{printStmt(numExp(1))}, depth)...)) {
		t.Error("a deep or long program is right")
	}
	if impl.ProgOk(progOf(slices.Repeat(arrsOf("a"), depth))) {
		t.Error("a program of many arrays is right")
	}
	// What stands in itself is not right either.
	round := loopIn("i", make([]impl.Stmt, 2)...)
	round.Body[0], round.Body[1] = round, round
	if impl.ProgOk(progOf(nil, round)) {
		t.Error("what stands in itself is right")
	}
}
