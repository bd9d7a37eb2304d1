package tests

import (
	"reflect"
	"slices"
	"strconv"
	"strings"
	"testing"

	"loop.example/g00476/impl"
)

func numExp(n int) impl.Exp    { return impl.Exp{K: impl.ENum, N: n} }
func varExp(s string) impl.Exp { return impl.Exp{K: impl.EVar, S: s} }
func atExp(s string, place impl.Exp) impl.Exp {
	return impl.Exp{K: impl.EAt, S: s, L: []impl.Exp{place}}
}
func twoExp(k int, left, right impl.Exp) impl.Exp {
	return impl.Exp{K: k, L: []impl.Exp{left, right}}
}

func setStmt(s string, e impl.Exp) impl.Stmt { return impl.Stmt{K: impl.SSet, S: s, E: e} }
func putStmt(s string, at, e impl.Exp) impl.Stmt {
	return impl.Stmt{K: impl.SPut, S: s, At: at, E: e}
}
func forStmt(s string, lo, hi impl.Exp, body ...impl.Stmt) impl.Stmt {
	return impl.Stmt{K: impl.SFor, S: s, Lo: lo, Hi: hi, Body: body}
}
func printStmt(e impl.Exp) impl.Stmt { return impl.Stmt{K: impl.SPrint, E: e} }

// expKinds has one right expression of each kind, stmtKinds one right statement of each.
func expKinds() []impl.Exp {
	x, one := varExp("x"), numExp(1)
	return []impl.Exp{
		numExp(7), varExp("x"), atExp("a", x),
		twoExp(impl.EAdd, x, one), twoExp(impl.ESub, x, one), twoExp(impl.EMul, x, one), twoExp(impl.EMin, x, one), twoExp(impl.EMax, x, one),
	}
}

func stmtKinds() []impl.Stmt {
	return []impl.Stmt{
		setStmt("x", numExp(1)), putStmt("a", varExp("i"), numExp(2)),
		forStmt("i", numExp(0), numExp(3), setStmt("x", varExp("i"))), printStmt(varExp("x")),
	}
}

// expText is of two just then the same text when all their parts are the same; nil and empty are one.
func expText(e impl.Exp) string {
	var b strings.Builder
	b.WriteString("{" + strconv.Itoa(e.K) + " " + strconv.Itoa(e.N) + " " + strconv.Quote(e.S))
	for _, part := range e.L {
		b.WriteString(expText(part))
	}
	return b.String() + "}"
}

func stmtText(s impl.Stmt) string {
	var b strings.Builder
	b.WriteString("<" + strconv.Itoa(s.K) + " " + strconv.Quote(s.S) + expText(s.At) + expText(s.E) + expText(s.Lo) + expText(s.Hi))
	for _, inner := range s.Body {
		b.WriteString(stmtText(inner))
	}
	return b.String() + ">"
}

func copyExp(e impl.Exp) impl.Exp {
	l := make([]impl.Exp, len(e.L))
	for i, part := range e.L {
		l[i] = copyExp(part)
	}
	e.S, e.L = strings.Clone(e.S), l
	return e
}

func copyStmt(s impl.Stmt) impl.Stmt {
	body := make([]impl.Stmt, len(s.Body))
	for i, inner := range s.Body {
		body[i] = copyStmt(inner)
	}
	s.S, s.At, s.E, s.Lo, s.Hi, s.Body = strings.Clone(s.S), copyExp(s.At), copyExp(s.E), copyExp(s.Lo), copyExp(s.Hi), body
	return s
}

// replaced is a new list with one place put anew.
func replaced[T any](l []T, at int, by T) []T {
	l = slices.Clone(l)
	l[at] = by
	return l
}

// otherExps are copies of e that part from it in one single field, at the top or within L.
func otherExps(e impl.Exp) []impl.Exp {
	var out []impl.Exp
	add := func(change func(*impl.Exp)) {
		c := copyExp(e)
		change(&c)
		out = append(out, c)
	}
	for k := -1; k <= 9; k++ {
		if k != e.K {
			add(func(c *impl.Exp) { c.K = k })
		}
	}
	for _, by := range []int{1, -1, 1 << 32, -1 << 63} {
		add(func(c *impl.Exp) { c.N += by })
	}
	for _, s := range []string{"", "y", e.S + "y", "y" + e.S, strings.ToUpper(e.S) + "\xff"} {
		if s != e.S {
			add(func(c *impl.Exp) { c.S = s })
		}
	}
	add(func(c *impl.Exp) { c.L = append(c.L, impl.Exp{}) })
	add(func(c *impl.Exp) { c.L = append(c.L, numExp(1)) })
	add(func(c *impl.Exp) { c.L = append([]impl.Exp{{}}, c.L...) })
	if len(e.L) > 0 {
		add(func(c *impl.Exp) { c.L = nil })
	}
	if len(e.L) > 1 {
		add(func(c *impl.Exp) { c.L = c.L[1:] })
		add(func(c *impl.Exp) { c.L = c.L[:len(c.L)-1] })
		if expText(e.L[0]) != expText(e.L[1]) {
			add(func(c *impl.Exp) { c.L[0], c.L[1] = c.L[1], c.L[0] })
		}
	}
	for i, part := range e.L {
		for _, other := range otherExps(part) {
			add(func(c *impl.Exp) { c.L = replaced(c.L, i, other) })
		}
	}
	return out
}

// expFields reaches each expression that a Stmt holds.
var expFields = map[string]func(*impl.Stmt) *impl.Exp{
	"At": func(s *impl.Stmt) *impl.Exp { return &s.At },
	"E":  func(s *impl.Stmt) *impl.Exp { return &s.E },
	"Lo": func(s *impl.Stmt) *impl.Exp { return &s.Lo },
	"Hi": func(s *impl.Stmt) *impl.Exp { return &s.Hi },
}

// otherStmts are copies of s that part from it in one single field, at the top, in an expression or within Bodies.
func otherStmts(s impl.Stmt) []impl.Stmt {
	var out []impl.Stmt
	add := func(change func(*impl.Stmt)) {
		c := copyStmt(s)
		change(&c)
		out = append(out, c)
	}
	for k := -1; k <= 5; k++ {
		if k != s.K {
			add(func(c *impl.Stmt) { c.K = k })
		}
	}
	for _, name := range []string{"", "y", s.S + "y"} {
		if name != s.S {
			add(func(c *impl.Stmt) { c.S = name })
		}
	}
	for _, field := range expFields {
		for _, other := range otherExps(*field(&s)) {
			add(func(c *impl.Stmt) { *field(c) = other })
		}
	}
	add(func(c *impl.Stmt) { c.Body = append(c.Body, impl.Stmt{}) })
	add(func(c *impl.Stmt) { c.Body = append([]impl.Stmt{{}}, c.Body...) })
	if len(s.Body) > 0 {
		add(func(c *impl.Stmt) { c.Body = nil })
	}
	if len(s.Body) > 1 {
		add(func(c *impl.Stmt) { c.Body = c.Body[1:] })
		add(func(c *impl.Stmt) { c.Body = c.Body[:len(c.Body)-1] })
		if stmtText(s.Body[0]) != stmtText(s.Body[1]) {
			add(func(c *impl.Stmt) { c.Body[0], c.Body[1] = c.Body[1], c.Body[0] })
		}
	}
	for i, inner := range s.Body {
		for _, other := range otherStmts(inner) {
			add(func(c *impl.Stmt) { c.Body = replaced(c.Body, i, other) })
		}
	}
	return out
}

func wantExp(t *testing.T, want bool, e impl.Exp) {
	t.Helper()
	if impl.ExpOk(e) != want {
		t.Errorf("ExpOk of %.200s is %v", expText(e), !want)
	}
}

func wantStmt(t *testing.T, want bool, s impl.Stmt) {
	t.Helper()
	if impl.StmtOk(s) != want {
		t.Errorf("StmtOk of %.200s is %v", stmtText(s), !want)
	}
}

func wantSameExp(t *testing.T, want bool, a, b impl.Exp) {
	t.Helper()
	if impl.SameExp(a, b) != want || impl.SameExp(b, a) != want {
		t.Errorf("SameExp of %.200s and %.200s is not %v", expText(a), expText(b), want)
	}
}

func wantSameStmt(t *testing.T, want bool, a, b impl.Stmt) {
	t.Helper()
	if impl.SameStmt(a, b) != want || impl.SameStmt(b, a) != want {
		t.Errorf("SameStmt of %.300s and %.300s is not %v", stmtText(a), stmtText(b), want)
	}
}

var (
	rightNames = []string{"a", "z", "i", "abcdef", "zzzzzz", "fo", "maxi", "arrays"}
	wrongNames = []string{"", "abcdefg", "array", "for", "to", "print", "min", "max", "A", "a1", "1", "a b", " a", "é", "\xff", "aaaaaaaaaaaaaaaaaaaaaaa"}
)

func TestExpOkOfEachKind(t *testing.T) {
	for _, e := range expKinds() {
		wantExp(t, true, e)
		wantExp(t, true, atExp("b", e))
		for k := impl.EAdd; k <= impl.EMax; k++ {
			wantExp(t, true, twoExp(k, e, varExp("y")))
			wantExp(t, true, twoExp(k, numExp(0), e))
			wantExp(t, true, twoExp(k, e, e))
		}
	}
	wantExp(t, true, twoExp(impl.ESub, atExp("a", twoExp(impl.EAdd, varExp("i"), numExp(1))), twoExp(impl.EMul, numExp(2), atExp("b", atExp("c", numExp(0))))))
}

func TestExpOkNumbers(t *testing.T) {
	for _, n := range []int{0, 1, 9, 10, 99999, 999998, 999999} {
		wantExp(t, true, numExp(n))
		wantExp(t, true, atExp("a", numExp(n)))
	}
	for _, n := range []int{-1, -2, -999999, 1000000, 1000001, 1 << 31, 1 << 32, -1 << 32, 1<<63 - 1, -1 << 63} {
		wantExp(t, false, numExp(n))
		wantExp(t, false, atExp("a", numExp(n)))
	}
}

func TestExpOkNames(t *testing.T) {
	for _, s := range rightNames {
		wantExp(t, true, varExp(s))
		wantExp(t, true, atExp(s, numExp(0)))
	}
	for _, s := range wrongNames {
		wantExp(t, false, varExp(s))
		wantExp(t, false, atExp(s, numExp(0)))
	}
}

// What each kind names, and how many stand in its L.
var expShapes = map[int]struct {
	n, s bool
	l    int
}{
	impl.ENum: {n: true}, impl.EVar: {s: true}, impl.EAt: {s: true, l: 1},
	impl.EAdd: {l: 2}, impl.ESub: {l: 2}, impl.EMul: {l: 2}, impl.EMin: {l: 2}, impl.EMax: {l: 2},
}

// Every kind, and kinds that there are not, with each part there or left out.
func TestExpOkParts(t *testing.T) {
	right := 0
	for k := -2; k <= 12; k++ {
		for _, n := range []int{0, 1, -1} {
			for _, s := range []string{"", "a", "for"} {
				for l := range 5 {
					for wrong := -1; wrong < l; wrong++ {
						e := impl.Exp{K: k, N: n, S: s, L: slices.Repeat([]impl.Exp{numExp(3)}, l)}
						if wrong >= 0 {
							e.L[wrong] = impl.Exp{}
						}
						shape, known := expShapes[k]
						want := known && (n == 0 || shape.n && n > 0) && shape.s == (s == "a") && (shape.s || s == "") && l == shape.l && wrong < 0
						if want {
							right++
						}
						wantExp(t, want, e)
					}
				}
			}
		}
	}
	if right != 9 {
		t.Errorf("%d were right", right)
	}
	for _, k := range []int{1 << 32, 1<<32 + 1, -1 << 63, 1<<63 - 1, 257} {
		wantExp(t, false, impl.Exp{K: k})
		wantExp(t, false, impl.Exp{K: k, N: 1})
		wantExp(t, false, impl.Exp{K: k, L: []impl.Exp{numExp(1), numExp(1)}})
	}
	wantExp(t, false, impl.Exp{})
}

// A part that may not be there makes what holds it wrong too, however far down it stands.
func TestExpOkPartsWithin(t *testing.T) {
	for _, e := range expKinds() {
		for _, wrong := range []func(*impl.Exp){
			func(c *impl.Exp) { c.K = 0 },
			func(c *impl.Exp) { c.K = 9 },
			func(c *impl.Exp) { c.N -= 8 },
			func(c *impl.Exp) { c.L = append(c.L, numExp(1)) },
			func(c *impl.Exp) { c.L = append(c.L, impl.Exp{}) },
			func(c *impl.Exp) { c.S += "to longer" },
		} {
			c := copyExp(e)
			wrong(&c)
			wantExp(t, false, c)
			wantExp(t, false, atExp("a", c))
			for k := impl.EAdd; k <= impl.EMax; k++ {
				wantExp(t, false, twoExp(k, c, numExp(1)))
				wantExp(t, false, twoExp(k, numExp(1), c))
				wantExp(t, false, twoExp(impl.EAdd, numExp(1), atExp("a", twoExp(k, numExp(1), c))))
			}
		}
	}
}

// deepExps are as deep as told, in all the ways a kind can go down.
func deepExps(depth int) []impl.Exp {
	at, left, right, both := numExp(1), numExp(1), varExp("x"), numExp(0)
	for i := 1; i < depth; i++ {
		at = atExp("a", at)
		left = twoExp(impl.EAdd+i%5, left, numExp(1))
		right = twoExp(impl.EAdd+i%5, numExp(1), right)
		if i%2 == 0 {
			both = atExp("a", both)
		} else {
			both = twoExp(impl.EMul, varExp("y"), both)
		}
	}
	return []impl.Exp{at, left, right, both}
}

func TestExpOkDepth(t *testing.T) {
	for depth := 1; depth <= 8; depth++ {
		for _, e := range deepExps(depth) {
			wantExp(t, true, e)
		}
	}
	for _, depth := range []int{9, 10, 16, 30, 61} {
		for _, e := range deepExps(depth) {
			wantExp(t, false, e)
			wantExp(t, false, atExp("a", e))
		}
	}
	// The deepest may stand beside short ones, on either side.
	for _, e := range deepExps(7) {
		wantExp(t, true, twoExp(impl.EMax, numExp(1), e))
		wantExp(t, true, twoExp(impl.EMax, e, numExp(1)))
		wantExp(t, false, twoExp(impl.EMax, numExp(1), atExp("a", e)))
		wantExp(t, false, twoExp(impl.EMax, atExp("a", e), numExp(1)))
	}
}

// expOfCount is of so many Exps, and no deeper than need be.
func expOfCount(count int) impl.Exp {
	switch count {
	case 1:
		return varExp("x")
	case 2:
		return atExp("a", numExp(0))
	}
	left := (count - 1) / 2
	return twoExp(impl.EAdd+count%5, expOfCount(left), expOfCount(count-1-left))
}

func TestExpOkCount(t *testing.T) {
	for count := 1; count <= 130; count++ {
		e := expOfCount(count)
		if got := strings.Count(expText(e), "{"); got != count {
			t.Fatalf("%d Exps in place of %d", got, count)
		}
		wantExp(t, count <= 60, e)
	}
	// The count goes over both sides and all depths: here with the most on one side.
	wantExp(t, true, twoExp(impl.EAdd, expOfCount(58), numExp(1)))
	wantExp(t, true, twoExp(impl.EAdd, numExp(1), expOfCount(58)))
	wantExp(t, false, twoExp(impl.EAdd, expOfCount(59), numExp(1)))
	wantExp(t, false, twoExp(impl.EAdd, numExp(1), expOfCount(59)))
	wantExp(t, true, atExp("a", expOfCount(59)))
	wantExp(t, false, atExp("a", expOfCount(60)))
	full := numExp(1)
	for depth := 1; depth <= 9; depth++ {
		wantExp(t, depth <= 5, full) // 31 Exps, 63 one deeper
		full = twoExp(impl.EAdd, full, full)
	}
}

func TestStmtOkOfEachKind(t *testing.T) {
	for _, s := range stmtKinds() {
		wantStmt(t, true, s)
		wantStmt(t, true, forStmt("j", numExp(0), varExp("n"), s))
		wantStmt(t, true, forStmt("j", numExp(0), varExp("n"), s, s, printStmt(numExp(1))))
	}
	for _, e := range expKinds() {
		wantStmt(t, true, setStmt("x", e))
		wantStmt(t, true, putStmt("a", e, numExp(1)))
		wantStmt(t, true, putStmt("a", numExp(1), e))
		wantStmt(t, true, forStmt("i", e, e, printStmt(e)))
		wantStmt(t, true, printStmt(e))
	}
}

func TestStmtOkNames(t *testing.T) {
	body := printStmt(numExp(1))
	for i, names := range [][]string{rightNames, wrongNames} {
		for _, s := range names {
			wantStmt(t, i == 0, setStmt(s, numExp(1)))
			wantStmt(t, i == 0, putStmt(s, numExp(0), numExp(1)))
			wantStmt(t, i == 0, forStmt(s, numExp(0), numExp(1), body))
			wantStmt(t, s == "", impl.Stmt{K: impl.SPrint, S: s, E: numExp(1)})
		}
	}
}

// What a Stmt may have, in the order of the bits of stmtWith; and what each kind names.
var stmtParts = []string{"S", "At", "E", "Lo", "Hi", "Body"}

var stmtShapes = map[int][]string{
	impl.SSet: {"S", "E"}, impl.SPut: {"S", "At", "E"}, impl.SFor: {"S", "Lo", "Hi", "Body"}, impl.SPrint: {"E"},
}

// stmtWith has the parts of which the bit is set, all of them right by themselves.
func stmtWith(k int, bits int) (impl.Stmt, []string) {
	s := impl.Stmt{K: k}
	var has []string
	for i, part := range stmtParts {
		if bits&(1<<i) == 0 {
			continue
		}
		has = append(has, part)
		switch part {
		case "S":
			s.S = "x"
		case "Body":
			s.Body = []impl.Stmt{setStmt("y", numExp(1))}
		default:
			*expFields[part](&s) = numExp(i)
		}
	}
	return s, has
}

// Every kind, and kinds that there are not, with every choice of parts.
func TestStmtOkParts(t *testing.T) {
	right := 0
	for k := -2; k <= 9; k++ {
		shape, known := stmtShapes[k]
		for bits := range 1 << len(stmtParts) {
			s, has := stmtWith(k, bits)
			want := known && slices.Equal(has, shape)
			if want {
				right++
			}
			wantStmt(t, want, s)
			wantStmt(t, want, forStmt("j", numExp(0), numExp(1), s))
		}
	}
	if right != 4 {
		t.Errorf("%d were right", right)
	}
	wantStmt(t, false, impl.Stmt{})
	for _, k := range []int{1<<32 + 1, -1 << 63, 1<<63 - 1, 257} {
		wantStmt(t, false, impl.Stmt{K: k, S: "x", E: numExp(1)})
		wantStmt(t, false, impl.Stmt{K: k, E: numExp(1)})
	}
}

// A part that may not be there is refused whichever of its fields is set, and a part that must be there whatever is wrong with it.
func TestStmtOkWrongExps(t *testing.T) {
	deep, many := deepExps(9)[0], expOfCount(61)
	strange := []impl.Exp{
		{N: 1}, {N: -1}, {S: "a"}, {L: []impl.Exp{{}}}, {L: []impl.Exp{numExp(1)}}, {K: 9}, {K: -1}, {K: impl.EVar}, {K: impl.EAt, S: "a"},
		numExp(-1), numExp(1000000), varExp("for"), varExp("abcdefg"), {K: impl.EVar, S: "a", N: 1}, {K: impl.EAdd, L: []impl.Exp{numExp(1)}},
		twoExp(impl.EAdd, numExp(1), impl.Exp{}), atExp("a", varExp("")), deep, many,
	}
	for _, s := range stmtKinds() {
		for name, field := range expFields {
			for _, e := range strange {
				c := copyStmt(s)
				*field(&c) = e
				wantStmt(t, false, c)
				wantStmt(t, false, forStmt("j", numExp(0), numExp(1), c))
				wantStmt(t, false, forStmt("j", numExp(0), numExp(1), s, c))
			}
			c := copyStmt(s)
			*field(&c) = numExp(4)
			wantStmt(t, slices.Contains(stmtShapes[s.K], name), c)
		}
	}
}

// A wrong statement in a Body makes all that it stands in wrong, at every place of every Body.
func TestStmtOkWrongInBody(t *testing.T) {
	good := stmtKinds()[:2]
	wrongs := []impl.Stmt{
		{}, {K: 5}, {K: -1}, setStmt("x", impl.Exp{}), setStmt("for", numExp(1)), printStmt(numExp(-1)), {K: impl.SPrint, S: "x", E: numExp(1)},
		forStmt("i", numExp(0), numExp(1)), forStmt("i", numExp(0), impl.Exp{}, good[0]), {K: impl.SSet, S: "x", E: numExp(1), Body: good},
	}
	for _, wrong := range wrongs {
		wantStmt(t, false, wrong)
		for at := range 6 {
			body := replaced(slices.Repeat(good, 3), at, wrong)
			loop := forStmt("i", numExp(0), numExp(1), body...)
			wantStmt(t, false, loop)
			wantStmt(t, false, forStmt("j", numExp(0), numExp(1), good[0], loop))
			wantStmt(t, false, forStmt("j", numExp(0), numExp(1), loop, good[0]))
		}
	}
}

func TestStmtOkBody(t *testing.T) {
	for _, one := range stmtKinds() {
		for count := range 10 {
			loop := forStmt("k", numExp(0), numExp(1), slices.Repeat([]impl.Stmt{one}, count)...)
			wantStmt(t, 1 <= count && count <= 6, loop)
			// Where the one is a SFor itself, the two around make four within each other.
			around := forStmt("l", numExp(0), numExp(1), forStmt("m", numExp(0), numExp(1), loop))
			wantStmt(t, 1 <= count && count <= 6 && one.K != impl.SFor, around)
		}
	}
	wantStmt(t, false, forStmt("k", numExp(0), numExp(1), slices.Repeat([]impl.Stmt{printStmt(numExp(1))}, 5000)...))
}

func TestStmtOkLoopsWithinEachOther(t *testing.T) {
	loop := printStmt(numExp(1))
	beside := setStmt("x", numExp(1))
	for depth := 1; depth <= 8; depth++ {
		wantStmt(t, depth <= 3, forStmt("i", numExp(0), numExp(1), loop))
		wantStmt(t, depth <= 3, forStmt("i", numExp(0), numExp(1), beside, loop))
		wantStmt(t, depth <= 3, forStmt("i", numExp(0), numExp(1), loop, beside))
		loop = forStmt("i", numExp(0), numExp(1), loop)
	}
	// Loops beside each other are not within each other.
	two := forStmt("j", numExp(0), numExp(1), forStmt("k", numExp(0), numExp(1), beside))
	wantStmt(t, true, forStmt("i", numExp(0), numExp(1), two, two, two, two, two, two))
	three := forStmt("j", numExp(0), numExp(1), two)
	wantStmt(t, true, three)
	wantStmt(t, false, forStmt("i", numExp(0), numExp(1), beside, beside, three))
}

// loopOf has so many Stmts beneath it, in Bodies of at most 6 that fill up from the front.
func loopOf(beneath int) impl.Stmt {
	loop := forStmt("i", numExp(0), numExp(1))
	for len(loop.Body) < 6 && beneath > 0 {
		room := 6 - len(loop.Body) - 1
		if beneath <= room+1 {
			loop.Body = append(loop.Body, setStmt("x", numExp(beneath)))
			beneath--
			continue
		}
		take := min(6, beneath-1-room)
		loop.Body = append(loop.Body, forStmt("j", numExp(0), numExp(1), slices.Repeat([]impl.Stmt{printStmt(numExp(1))}, take)...))
		beneath -= take + 1
	}
	return loop
}

func TestStmtOkCount(t *testing.T) {
	for count := 2; count <= 43; count++ {
		loop := loopOf(count - 1)
		if got := strings.Count(stmtText(loop), "<"); got != count {
			t.Fatalf("%d Stmts in place of %d", got, count)
		}
		wantStmt(t, count <= 40, loop)
		wantStmt(t, count <= 39, forStmt("k", numExp(0), numExp(1), loop))
		wantStmt(t, count <= 38, forStmt("k", numExp(0), numExp(1), loop, printStmt(numExp(1))))
		wantStmt(t, count <= 38, forStmt("k", numExp(0), numExp(1), printStmt(numExp(1)), loop))
		if got := impl.Size([]impl.Stmt{loop}); got != count {
			t.Errorf("Size is %d, not %d", got, count)
		}
	}
	// Exps are counted one by one, not all of a statement together.
	most := expOfCount(60)
	wantStmt(t, true, putStmt("a", most, most))
	wantStmt(t, true, forStmt("i", most, most, printStmt(most), printStmt(most), forStmt("j", most, most, setStmt("x", most))))
}

func TestSize(t *testing.T) {
	set := setStmt("x", numExp(1))
	loop := forStmt("i", numExp(0), numExp(1), set, set)
	within := forStmt("j", numExp(0), numExp(1), set, loop, loop)
	for _, c := range []struct {
		l    []impl.Stmt
		want int
	}{
		{nil, 0},
		{[]impl.Stmt{}, 0},
		{[]impl.Stmt{set}, 1},
		{[]impl.Stmt{set, set, set}, 3},
		{[]impl.Stmt{loop}, 3},
		{[]impl.Stmt{loop, set}, 4},
		{[]impl.Stmt{within}, 8},
		{[]impl.Stmt{set, within, set, loop}, 13},
		{[]impl.Stmt{forStmt("k", numExp(0), numExp(1), within, set, within)}, 18},
		// Wrong ones count as well, and Bodies that their kind does not name.
		{[]impl.Stmt{{}}, 1},
		{[]impl.Stmt{{}, {K: 9}, {K: -1}}, 3},
		{[]impl.Stmt{{Body: []impl.Stmt{{}}}}, 2},
		{[]impl.Stmt{{K: impl.SSet, S: "x", E: numExp(1), Body: []impl.Stmt{set, loop}}}, 5},
		{[]impl.Stmt{{K: 9, Body: []impl.Stmt{{K: impl.SPrint, Body: []impl.Stmt{within}}, {}}}}, 11},
		{[]impl.Stmt{forStmt("i", numExp(0), numExp(1))}, 1},
		{slices.Repeat([]impl.Stmt{loop}, 500), 1500},
	} {
		if got := impl.Size(c.l); got != c.want {
			t.Errorf("Size is %d, not %d", got, c.want)
		}
	}
	if got := impl.Size([]impl.Stmt{set, loop, within}[:1]); got != 1 {
		t.Errorf("Size counts what is behind the list: %d", got)
	}
}

func TestSameExp(t *testing.T) {
	samples := append(expKinds(),
		impl.Exp{}, numExp(0), impl.Exp{K: 9, N: 3, S: "for", L: []impl.Exp{{}, {}, numExp(-1)}},
		impl.Exp{K: impl.ENum, N: 4, S: "unnamed", L: []impl.Exp{{N: 5}}},
		atExp("a", twoExp(impl.EAdd, varExp("i"), atExp("b", numExp(1)))),
		twoExp(impl.EMin, twoExp(impl.ESub, numExp(1), varExp("x")), twoExp(impl.EMax, atExp("a", varExp("y")), numExp(999999))))
	for i, e := range samples {
		wantSameExp(t, true, e, e)
		wantSameExp(t, true, e, copyExp(e))
		for j, other := range samples {
			wantSameExp(t, i == j, e, other)
		}
		others := otherExps(e)
		for _, other := range others {
			wantSameExp(t, false, e, other)
		}
		for _, one := range others {
			for _, other := range others {
				wantSameExp(t, expText(one) == expText(other), one, other)
			}
		}
	}
}

func TestSameExpNilAndEmpty(t *testing.T) {
	none := []impl.Exp{}
	for _, e := range []impl.Exp{{}, numExp(0), varExp("x"), {K: impl.EAdd}} {
		empty := e
		empty.L = none
		behind := e
		behind.L = []impl.Exp{numExp(1)}[:0]
		wantSameExp(t, true, e, empty)
		wantSameExp(t, true, e, behind)
		wantSameExp(t, true, atExp("a", e), atExp("a", empty))
		wantSameExp(t, true, twoExp(impl.EAdd, numExp(1), e), twoExp(impl.EAdd, numExp(1), behind))
		if impl.ExpOk(e) != impl.ExpOk(empty) || impl.ExpOk(e) != impl.ExpOk(behind) {
			t.Errorf("nil and empty are not the same to ExpOk in %s", expText(e))
		}
		wantSameExp(t, false, e, impl.Exp{K: e.K, N: e.N, S: e.S, L: []impl.Exp{{}}})
	}
}

func TestSameStmt(t *testing.T) {
	nest := forStmt("i", numExp(0), varExp("n"),
		putStmt("a", varExp("i"), numExp(1)),
		forStmt("j", varExp("i"), numExp(9), setStmt("x", twoExp(impl.EAdd, varExp("x"), atExp("a", varExp("j")))), printStmt(varExp("x"))))
	samples := append(stmtKinds(), impl.Stmt{}, nest,
		impl.Stmt{K: impl.SPrint, S: "unnamed", At: numExp(1), E: numExp(2), Lo: numExp(3), Hi: numExp(4), Body: []impl.Stmt{{K: 7, S: "to"}, {}}})
	for i, s := range samples {
		wantSameStmt(t, true, s, s)
		wantSameStmt(t, true, s, copyStmt(s))
		for j, other := range samples {
			wantSameStmt(t, i == j, s, other)
		}
		others := otherStmts(s)
		for _, other := range others {
			wantSameStmt(t, false, s, other)
		}
		wantSamePairs(t, others)
	}
}

// wantSamePairs holds some hundred of the list against each other, two by two.
func wantSamePairs(t *testing.T, l []impl.Stmt) {
	t.Helper()
	step := len(l)/100 + 1
	for i := 0; i < len(l); i += step {
		for j := 0; j < len(l); j += step {
			wantSameStmt(t, stmtText(l[i]) == stmtText(l[j]), l[i], l[j])
		}
	}
}

func TestSameStmtNilAndEmpty(t *testing.T) {
	for _, s := range stmtKinds() {
		c := copyStmt(s)
		for _, field := range expFields {
			field(&c).L = append([]impl.Exp{}, field(&c).L...)
		}
		if len(c.Body) == 0 {
			c.Body = []impl.Stmt{printStmt(numExp(1))}[:0]
		}
		wantSameStmt(t, true, s, c)
		wantStmt(t, true, c)
		wantSameStmt(t, true, forStmt("i", numExp(0), numExp(1), s), forStmt("i", numExp(0), numExp(1), c))
	}
	empty := forStmt("i", numExp(0), numExp(1))
	empty.Body = []impl.Stmt{}
	wantSameStmt(t, true, forStmt("i", numExp(0), numExp(1)), empty)
	wantStmt(t, false, empty)
}

// Nothing is written into an argument, nor behind it.
func TestProgramsAreNotWritten(t *testing.T) {
	room := []impl.Exp{varExp("x"), numExp(1), varExp("behind")}
	e := impl.Exp{K: impl.EAdd, L: room[:2]}
	bodyRoom := []impl.Stmt{setStmt("x", e), printStmt(e), setStmt("behind", e)}
	s := forStmt("i", e, e)
	s.Body = bodyRoom[:2]
	listRoom := []impl.Stmt{s, setStmt("behind", e)}
	keptRoom, keptBody, keptList := copyExp(impl.Exp{L: room}).L, copyStmt(impl.Stmt{Body: bodyRoom}).Body, copyStmt(impl.Stmt{Body: listRoom}).Body
	wantExp(t, true, e)
	wantStmt(t, true, s)
	wantSameExp(t, true, e, e)
	wantSameStmt(t, true, s, s)
	if got := impl.Size(listRoom[:1]); got != 3 {
		t.Errorf("Size is %d", got)
	}
	if expText(impl.Exp{L: room}) != expText(impl.Exp{L: keptRoom}) ||
		stmtText(impl.Stmt{Body: bodyRoom}) != stmtText(impl.Stmt{Body: keptBody}) ||
		stmtText(impl.Stmt{Body: listRoom}) != stmtText(impl.Stmt{Body: keptList}) {
		t.Error("an argument was written into")
	}
}

// However deep an argument is, and even where it stands in itself, there is an answer.
func TestProgramsWithoutEnd(t *testing.T) {
	const depth = 100000
	a, b, wrong := numExp(1), numExp(1), numExp(2)
	s, same, other := printStmt(numExp(1)), printStmt(numExp(1)), printStmt(numExp(2))
	for range depth {
		a, b, wrong = atExp("a", a), atExp("a", b), atExp("a", wrong)
		s, same, other = forStmt("i", numExp(0), numExp(1), s), forStmt("i", numExp(0), numExp(1), same), forStmt("i", numExp(0), numExp(1), other)
	}
	if impl.ExpOk(a) || !impl.SameExp(a, b) || impl.SameExp(a, wrong) {
		t.Error("a deep expression")
	}
	if impl.StmtOk(s) || !impl.SameStmt(s, same) || impl.SameStmt(s, other) {
		t.Error("a deep statement")
	}
	if got := impl.Size([]impl.Stmt{s}); got != depth+1 {
		t.Errorf("Size of a deep statement is %d", got)
	}
	if impl.StmtOk(impl.Stmt{K: impl.SSet, S: "x", E: a}) || impl.StmtOk(impl.Stmt{K: impl.SSet, S: "x", E: numExp(1), Hi: a}) {
		t.Error("a statement of a deep expression")
	}
	for k := 0; k <= 9; k++ {
		round := impl.Exp{K: k, L: make([]impl.Exp, 2)}
		round.L[0], round.L[1] = round, round
		loop := forStmt("i", numExp(0), numExp(1), make([]impl.Stmt, 6)...)
		for i := range loop.Body {
			loop.Body[i] = loop
		}
		loop.K = k
		if impl.ExpOk(round) || impl.ExpOk(atExp("a", round)) || impl.StmtOk(loop) || impl.StmtOk(setStmt("x", round)) {
			t.Error("what stands in itself is right")
		}
	}
}

// The kinds are the numbers that the document names, and the zero values have nothing.
func TestProgramParts(t *testing.T) {
	if got := []int{impl.ENum, impl.EVar, impl.EAt, impl.EAdd, impl.ESub, impl.EMul, impl.EMin, impl.EMax}; !slices.Equal(got, []int{1, 2, 3, 4, 5, 6, 7, 8}) {
		t.Errorf("kinds of Exp: %v", got)
	}
	if got := []int{impl.SSet, impl.SPut, impl.SFor, impl.SPrint}; !slices.Equal(got, []int{1, 2, 3, 4}) {
		t.Errorf("kinds of Stmt: %v", got)
	}
	for _, c := range []struct {
		of   any
		want []string
	}{
		{impl.Exp{}, []string{"K", "N", "S", "L"}},
		{impl.Stmt{}, []string{"K", "S", "At", "E", "Lo", "Hi", "Body"}},
		{impl.Arr{}, []string{"Name", "Size"}},
		{impl.Prog{}, []string{"Arrs", "Body"}},
	} {
		var got []string
		for _, f := range reflect.VisibleFields(reflect.TypeOf(c.of)) {
			got = append(got, f.Name)
		}
		if !slices.Equal(got, c.want) {
			t.Errorf("%T has %v, not %v", c.of, got, c.want)
		}
	}
}
