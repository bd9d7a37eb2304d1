package tests

import (
	"fmt"
	"math"
	"math/big"
	"slices"
	"strconv"
	"strings"
	"testing"

	"loop.example/g00476/impl"
)

// stoText is of two just then the same text when all their parts are the same; nil and empty are one.
func stoText(s impl.Sto) string { return fmt.Sprint(s.A, s.V, s.Out, s.End) }

// wantSto has what is asked for in parts, to be told only where it is needed: many are held against each other.
func wantSto(t *testing.T, got, want impl.Sto, what ...any) {
	t.Helper()
	if got.End != want.End || !slices.Equal(got.V, want.V) || !slices.Equal(got.Out, want.Out) || !slices.EqualFunc(got.A, want.A, slices.Equal[[]int]) {
		t.Errorf("%.500s is %.300s, not %.300s", fmt.Sprint(what...), stoText(got), stoText(want))
	}
}

func copySto(s impl.Sto) impl.Sto {
	var a [][]int
	for _, l := range s.A {
		a = append(a, slices.Clone(l))
	}
	return impl.Sto{A: a, V: slices.Clone(s.V), Out: slices.Clone(s.Out), End: s.End}
}

// wantStoOwn holds all lists of one store against each other.
func wantStoOwn(t *testing.T, s impl.Sto) {
	t.Helper()
	wantOwnMemory(t, append(slices.Clone(s.A), s.V, s.Out)...)
}

// gone is what a teller gives up with, where something is false.
type gone struct{}

// teller does a right program by the document's words, without an end of fuel: words stand by their own text (`x`, `a[2]`), and each time one of fuel is taken it writes down how all stood ahead of that.
type teller struct {
	p      impl.Prog
	words  map[string]int
	bound  []impl.Bind
	out    []int
	stands []impl.Sto
	most   int
}

func spotText(array string, place int) string { return array + "[" + strconv.Itoa(place) + "]" }

func newTeller(p impl.Prog, s impl.Sto, binds []impl.Bind) *teller {
	w := &teller{p: p, words: map[string]int{}, bound: binds}
	for k, a := range p.Arrs {
		if k >= len(s.A) {
			break
		}
		for place, n := range s.A[k] {
			if impl.ArrAt(p, a.Name) == k {
				w.words[spotText(a.Name, place)] = n
			}
		}
	}
	for i, name := range impl.VarsOf(p.Body) {
		if i < len(s.V) {
			w.words[name] = s.V[i]
		}
	}
	return w
}

func (w *teller) sto(end int) impl.Sto {
	s := impl.Sto{Out: slices.Clone(w.out), End: end}
	for _, a := range w.p.Arrs {
		var l []int
		for place := range a.Size {
			l = append(l, w.words[spotText(a.Name, place)])
		}
		s.A = append(s.A, l)
	}
	for _, name := range impl.VarsOf(w.p.Body) {
		s.V = append(s.V, w.words[name])
	}
	return s
}

func (w *teller) value(e impl.Exp) int {
	var parts []int
	for _, part := range e.L {
		parts = append(parts, w.value(part))
	}
	switch e.K {
	case impl.ENum:
		return e.N
	case impl.EVar:
		for i := len(w.bound) - 1; i >= 0; i-- {
			if w.bound[i].Name == e.S {
				return w.bound[i].N
			}
		}
		return w.words[e.S]
	case impl.EAt:
		n, ok := w.words[spotText(e.S, parts[0])]
		if !ok {
			panic(gone{})
		}
		return n
	}
	return paired(e.K, parts[0], parts[1])
}

// paired makes of two what chapter 7 says, by numbers without bounds.
func paired(k, a, b int) int {
	x, y := bigOf(a), bigOf(b)
	switch {
	case k == impl.EAdd:
		return wrapped(new(big.Int).Add(x, y))
	case k == impl.ESub:
		return wrapped(new(big.Int).Sub(x, y))
	case k == impl.EMul:
		return wrapped(new(big.Int).Mul(x, y))
	case (k == impl.EMin) == (x.Cmp(y) < 0):
		return a
	}
	return b
}

// enough is what a teller gives up with, where all fuel that may be asked for is told.
type enough struct{}

func (w *teller) take() {
	w.stands = append(w.stands, w.sto(impl.EndFuel))
	if len(w.stands) > w.most {
		panic(enough{})
	}
}

func (w *teller) do(l []impl.Stmt) {
	for _, s := range l {
		w.take()
		switch s.K {
		case impl.SSet:
			w.words[s.S] = w.value(s.E)
		case impl.SPut:
			spot := spotText(s.S, w.value(s.At))
			n := w.value(s.E)
			if _, ok := w.words[spot]; !ok {
				panic(gone{})
			}
			w.words[spot] = n
		case impl.SFor:
			from, to := w.value(s.Lo), w.value(s.Hi)
			for rounds := 0; from+rounds <= to; rounds++ {
				w.take()
				w.bound = append(w.bound, impl.Bind{Name: s.S, N: from + rounds})
				w.do(s.Body)
				w.bound = w.bound[:len(w.bound)-1]
			}
		case impl.SPrint:
			w.out = append(w.out, w.value(s.E))
		}
	}
}

// ended tells by what a teller's work was left.
func ended(work func()) (by any) {
	defer func() { by = recover() }()
	work()
	return nil
}

// told is what Run must answer of a right program at each fuel: how all stands where there is no more of it, and how it ended if it ends within most.
func told(p impl.Prog, most int) ([]impl.Sto, impl.Sto, bool) {
	w := newTeller(p, impl.Sto{}, nil)
	w.most = most
	for _, a := range p.Arrs {
		for place := range a.Size {
			w.words[spotText(a.Name, place)] = 0
		}
	}
	switch ended(func() { w.do(p.Body) }).(type) {
	case nil:
		return w.stands, w.sto(impl.EndGood), true
	case gone:
		return w.stands, w.sto(impl.EndTrap), true
	}
	return w.stands, impl.Sto{}, false
}

// wantTold holds Run against what is told, at no fuel, at each that comes to an end too early, at just enough and at more, and at what is none.
func wantTold(t *testing.T, p impl.Prog, most int) (end, cost int) {
	t.Helper()
	if !impl.ProgOk(p) {
		t.Fatalf("%.300s is not right", progText(p))
	}
	text := impl.ProgText(p)
	stands, last, ends := told(p, most)
	for fuel := 0; fuel < len(stands) && fuel <= most; fuel++ {
		// Of a long way some are enough.
		if fuel > 200 && fuel%97 != 0 && fuel < len(stands)-3 {
			continue
		}
		wantSto(t, impl.Run(p, fuel), stands[fuel], "Run at ", fuel, " of ", text)
	}
	if !ends {
		return impl.EndFuel, most
	}
	cost = len(stands)
	for _, fuel := range []int{cost, cost + 1, cost + 2, (cost + impl.MaxFuel) / 2, impl.MaxFuel} {
		if fuel <= impl.MaxFuel {
			wantSto(t, impl.Run(p, fuel), last, "Run at ", fuel, " of ", text)
		}
	}
	for _, fuel := range []int{-1, -cost, math.MinInt, impl.MaxFuel + 1, impl.MaxFuel + cost + 1, 1 << 32, 1<<32 + cost, math.MaxInt} {
		if fuel < 0 || fuel > impl.MaxFuel {
			wantSto(t, impl.Run(p, fuel), impl.Run(p, 0), "Run at ", fuel, " of ", text)
		}
	}
	return last.End, cost
}

func parsed(t *testing.T, s string) impl.Prog {
	t.Helper()
	p, ok := impl.Parse(s)
	if !ok {
		t.Fatalf("%q is not right", s)
	}
	return p
}

func parsedExp(t *testing.T, s string) impl.Exp {
	t.Helper()
	e, ok := impl.ParseExp(s)
	if !ok {
		t.Fatalf("%q is not right", s)
	}
	return e
}

func wantEval(t *testing.T, p impl.Prog, s impl.Sto, binds []impl.Bind, e impl.Exp, want int) {
	t.Helper()
	if n, ok := impl.Eval(p, s, binds, e); n != want || !ok {
		t.Errorf("Eval of %.200q, %.200s, %.200v is %d, %v, not %d", toldExp(e), stoText(s), binds, n, ok, want)
	}
}

func wantNoEval(t *testing.T, p impl.Prog, s impl.Sto, binds []impl.Bind, e impl.Exp) {
	t.Helper()
	if n, ok := impl.Eval(p, s, binds, e); n != 0 || ok {
		t.Errorf("Eval of %.200s, %.200s, %.200v is %d, %v", expText(e), stoText(s), binds, n, ok)
	}
}

func TestStoNewArrays(t *testing.T) {
	for _, size := range []int{math.MinInt, -1 << 32, -17, -16, -1, 0, 1, 2, 15, 16, 17, 18, 256, 1 << 32, 1<<32 + 4, math.MaxInt} {
		words := 0
		if 0 <= size && size <= 16 {
			words = size
		}
		for at := range 4 {
			arrs := replaced(arrsOf("a", "b", "c", "d"), at, impl.Arr{Name: "e", Size: size})
			want := impl.Sto{A: replaced([][]int{make([]int, 4), make([]int, 4), make([]int, 4), make([]int, 4)}, at, make([]int, words))}
			wantSto(t, impl.StoNew(progOf(arrs)), want, "StoNew of ", arrs)
		}
		wantSto(t, impl.StoNew(progOf([]impl.Arr{{Size: size}})), impl.Sto{A: [][]int{make([]int, words)}}, "StoNew of Size ", size)
	}
	wantSto(t, impl.StoNew(impl.Prog{}), impl.Sto{}, "StoNew of nothing")
	wantSto(t, impl.StoNew(impl.Prog{Arrs: []impl.Arr{}, Body: []impl.Stmt{}}), impl.Sto{}, "StoNew of nothing")
	// None need be right: not their names, their order, nor how many there are.
	for _, names := range [][]string{{"b", "a"}, {"a", "a"}, {"", "for"}, {"a", "b", "c", "d", "e", "f"}} {
		wantSto(t, impl.StoNew(progOf(arrsOf(names...))), impl.Sto{A: slices.Repeat([][]int{make([]int, 4)}, len(names))}, "StoNew of ", names)
	}
	if s := impl.StoNew(progOf(slices.Repeat(arrsOf("a"), 100000))); len(s.A) != 100000 || len(s.A[99999]) != 4 {
		t.Errorf("%d lists of many arrays", len(s.A))
	}
}

// A word for each name that is set, anywhere; none for what is a loop's, an array's, or only asked.
func TestStoNewWords(t *testing.T) {
	set := func(name string) impl.Stmt { return setStmt(name, varExp("q")) }
	for _, c := range []struct {
		words int
		p     impl.Prog
	}{
		{0, progOf(nil, printStmt(varExp("x")))},
		{0, progOf(arrsOf("a"), putStmt("a", numExp(0), varExp("x")), loopIn("i", printStmt(varExp("i"))))},
		{1, progOf(nil, set("x"))},
		{1, progOf(nil, set("x"), set("x"), loopIn("i", set("x")))},
		{2, progOf(nil, set("y"), set("x"))},
		{3, progOf(nil, set("y"), loopIn("i", set("x"), loopIn("j", loopIn("k", set("z")))))},
		{6, progOf(nil, set("a"), set("b"), set("c"), set("d"), set("e"), set("f"))},
		// Not right, and told all the same.
		{7, progOf(nil, set("a"), set("b"), set("c"), set("d"), set("e"), set("f"), set("g"))},
		{1, progOf(arrsOf("x"), set("x"))},
		{1, progOf(nil, loopIn("i", set("i")))},
		{2, progOf(nil, impl.Stmt{K: impl.SPrint, Body: []impl.Stmt{set(""), set("for")}})},
		{0, progOf(nil, impl.Stmt{}, impl.Stmt{K: 5, S: "x"})},
	} {
		var a [][]int
		for range c.p.Arrs {
			a = append(a, make([]int, 4))
		}
		wantSto(t, impl.StoNew(c.p), impl.Sto{A: a, V: make([]int, c.words)}, "StoNew of ", progText(c.p))
	}
	deep := set("x")
	for range 100000 {
		deep = loopIn("i", deep)
	}
	wantSto(t, impl.StoNew(progOf(nil, deep)), impl.Sto{V: []int{0}}, "StoNew of what is deep")
}

func TestStoNewIsNew(t *testing.T) {
	p := parsed(t, "array a 16; array b 1; array c 4; array d 3; x = 1; y = 1; z = 1;")
	want := stoText(impl.StoNew(p))
	for range 2 {
		s := impl.StoNew(p)
		wantStoOwn(t, s)
		if stoText(s) != want {
			t.Errorf("StoNew is %s", stoText(s))
		}
		for _, l := range append(s.A, s.V) {
			for i := range l {
				l[i] = 7
			}
		}
	}
}

func TestEvalNumbers(t *testing.T) {
	for _, n := range []int{0, 1, 9, 10, 999998, 999999} {
		wantEval(t, impl.Prog{}, impl.Sto{}, nil, numExp(n), n)
		wantEval(t, parsed(t, "x = 1;"), impl.Sto{V: []int{5}}, []impl.Bind{{Name: "x", N: 6}}, numExp(n), n)
	}
	for _, n := range []int{-1, 1000000, math.MinInt, math.MaxInt} {
		wantNoEval(t, impl.Prog{}, impl.Sto{}, nil, numExp(n))
	}
}

func TestEvalNames(t *testing.T) {
	p := parsed(t, "z = 1; x = 1; for i = 0 to 1 { y = j; }")
	s := impl.Sto{V: []int{10, 20, 30}}
	bind := func(l ...impl.Bind) []impl.Bind { return l }
	for _, c := range []struct {
		name  string
		binds []impl.Bind
		want  int
	}{
		// Not bound, and in V: ascending, not as the text has them.
		{"x", nil, 10}, {"y", nil, 20}, {"z", nil, 30},
		{"x", bind(impl.Bind{Name: "y", N: 1}), 10}, {"x", bind(impl.Bind{Name: "xx", N: 1}, impl.Bind{Name: "", N: 2}), 10},
		// In neither: never set, a loop's, only asked.
		{"q", nil, 0}, {"i", nil, 0}, {"j", nil, 0}, {"q", bind(impl.Bind{Name: "i", N: 4}), 0},
		// Bound once, whether V has it or not.
		{"i", bind(impl.Bind{Name: "i", N: 4}), 4}, {"q", bind(impl.Bind{Name: "q", N: -4}), -4}, {"y", bind(impl.Bind{Name: "y", N: 4}), 4}, {"y", bind(impl.Bind{Name: "y"}), 0},
		{"i", bind(impl.Bind{Name: "j", N: 1}, impl.Bind{Name: "i", N: 2}, impl.Bind{Name: "k", N: 3}), 2},
		// Bound twice, and more often: the last one.
		{"i", bind(impl.Bind{Name: "i", N: 4}, impl.Bind{Name: "i", N: 5}), 5},
		{"i", bind(impl.Bind{Name: "i", N: 5}, impl.Bind{Name: "i", N: 4}), 4},
		{"z", bind(impl.Bind{Name: "z", N: 5}, impl.Bind{Name: "i", N: 6}, impl.Bind{Name: "z", N: 7}, impl.Bind{Name: "i", N: 8}), 7},
		{"i", bind(impl.Bind{Name: "i", N: 5}, impl.Bind{Name: "i", N: 6}, impl.Bind{Name: "i", N: 0}), 0},
		// The ends of words, as they are.
		{"i", bind(impl.Bind{Name: "i", N: leastWord}), leastWord}, {"i", bind(impl.Bind{Name: "i", N: greatestWord}), greatestWord},
	} {
		wantEval(t, p, s, c.binds, varExp(c.name), c.want)
		wantEval(t, p, s, c.binds, twoExp(impl.EAdd, numExp(1), varExp(c.name)), impl.Wrap(c.want+1))
	}
	// V has fewer than there are names, or more.
	for count := range 5 {
		few := impl.Sto{V: []int{10, 20, 30, 40}[:count]}
		for at, name := range []string{"x", "y", "z", "zz"} {
			want := 0
			if at < count && at < 3 {
				want = 10 * (at + 1)
			}
			wantEval(t, p, few, nil, varExp(name), want)
		}
	}
	for _, name := range wrongNames {
		wantNoEval(t, p, s, bind(impl.Bind{Name: name, N: 1}), varExp(name))
	}
}

// Words of V are found where the program is not right, too: all that is set anywhere counts.
func TestEvalOfNoRightProgram(t *testing.T) {
	p := progOf(arrsOf("b", "a", "b"), impl.Stmt{K: 9, Body: []impl.Stmt{setStmt("c", numExp(1)), setStmt("b", numExp(1)), setStmt("", numExp(1))}})
	s := impl.Sto{A: [][]int{{1, 2}, {3}, {4, 5, 6}}, V: []int{7, 8, 9}}
	wantEval(t, p, s, nil, varExp("b"), 8)
	wantEval(t, p, s, nil, varExp("c"), 9)
	wantEval(t, p, s, nil, varExp("a"), 0)
	// Of two arrays of one name the first one.
	wantEval(t, p, s, nil, atExp("b", numExp(1)), 2)
	wantNoEval(t, p, s, nil, atExp("b", numExp(2)))
	wantEval(t, p, s, nil, atExp("a", numExp(0)), 3)
	wantNoEval(t, p, s, nil, atExp("a", numExp(1)))
}

func TestEvalPlaces(t *testing.T) {
	for _, size := range []int{0, 1, 2, 4, 15, 16} {
		p := progOf([]impl.Arr{{Name: "a", Size: 2}, {Name: "b", Size: size}, {Name: "c", Size: 2}})
		s := impl.Sto{A: [][]int{{-1, -2}, make([]int, size), {-3, -4}}}
		for i := range size {
			s.A[1][i] = 100 + i
		}
		for _, place := range []int{leastWord, -size - 1, -size, -1, 0, 1, size - 1, size, size + 1, 16, 17, 999999, greatestWord} {
			binds := []impl.Bind{{Name: "i", N: place}}
			if 0 <= place && place < size {
				wantEval(t, p, s, binds, atExp("b", varExp("i")), 100+place)
			} else {
				wantNoEval(t, p, s, binds, atExp("b", varExp("i")))
			}
		}
	}
	p := parsed(t, "array a 3; array b 2;")
	s := impl.Sto{A: [][]int{{1, 0, 2}, {5, 6}}}
	for text, want := range map[string]int{"a[0]": 1, "a[2]": 2, "b[0]": 5, "b[1]": 6, "a[a[0]]": 0, "a[a[2]]": 2, "b[a[0]]": 6, "b[a[a[0]]]": 5, "a[b[1] - b[0]]": 0, "b[0 * a[2]] * a[1 + 1]": 10} {
		wantEval(t, p, s, nil, parsedExp(t, text), want)
	}
	for _, text := range []string{"a[3]", "a[0 - 1]", "b[2]", "b[a[2]]", "a[b[0]]", "a[b[2]]", "c[0]", "a[c[0]]", "x[0]"} {
		wantNoEval(t, p, s, []impl.Bind{{Name: "c", N: 1}, {Name: "a", N: 1}}, parsedExp(t, text))
	}
}

// The store alone says which words there are, whatever the program says of its arrays.
func TestEvalOfAnotherStore(t *testing.T) {
	for _, size := range []int{-1, 0, 1, 3, 16, 17} {
		p := progOf([]impl.Arr{{Name: "a", Size: size}, {Name: "b", Size: size}})
		for words := range 20 {
			l := make([]int, words, words+4)
			for i := range l[:cap(l)] {
				l[:cap(l)][i] = 100 + i
			}
			for k, name := range []string{"a", "b"} {
				s := impl.Sto{A: replaced([][]int{{1}, {1}, {1}}, k, l)}
				for place := range 20 {
					if place < words {
						wantEval(t, p, s, nil, atExp(name, numExp(place)), 100+place)
					} else {
						wantNoEval(t, p, s, nil, atExp(name, numExp(place)))
					}
				}
				wantNoEval(t, p, s, nil, atExp("c", numExp(0)))
			}
		}
		one, two := [][]int{{1}}, [][]int{{1}, {2}}
		for _, a := range [][][]int{nil, {}, two[:0]} {
			wantNoEval(t, p, impl.Sto{A: a}, nil, atExp("a", numExp(0)))
			wantNoEval(t, p, impl.Sto{A: a}, nil, atExp("b", numExp(0)))
		}
		for _, a := range [][][]int{one, two[:1]} {
			wantEval(t, p, impl.Sto{A: a}, nil, atExp("a", numExp(0)), 1)
			wantNoEval(t, p, impl.Sto{A: a}, nil, atExp("b", numExp(0)))
		}
		wantNoEval(t, p, impl.Sto{A: [][]int{nil, {2}}}, nil, atExp("a", numExp(0)))
		wantEval(t, p, impl.Sto{A: [][]int{nil, {2}}}, nil, atExp("b", numExp(0)), 2)
	}
}

func TestEvalOfTwo(t *testing.T) {
	x, y := varExp("x"), varExp("y")
	for _, c := range []struct{ k, x, y, want int }{
		{impl.EAdd, 2, 3, 5}, {impl.EAdd, greatestWord, 1, leastWord}, {impl.EAdd, greatestWord, greatestWord, -2}, {impl.EAdd, leastWord, -1, greatestWord}, {impl.EAdd, leastWord, leastWord, 0},
		{impl.EAdd, greatestWord - 1, 1, greatestWord}, {impl.EAdd, leastWord + 1, -1, leastWord},
		{impl.ESub, 2, 3, -1}, {impl.ESub, leastWord, 1, greatestWord}, {impl.ESub, greatestWord, -1, leastWord}, {impl.ESub, 0, leastWord, leastWord}, {impl.ESub, leastWord, greatestWord, 1},
		{impl.EMul, -2, 3, -6}, {impl.EMul, 65536, 65536, 0}, {impl.EMul, 65536, 32768, leastWord}, {impl.EMul, leastWord, -1, leastWord}, {impl.EMul, greatestWord, greatestWord, 1}, {impl.EMul, 999999, 999999, -729379967},
		{impl.EMin, 2, 3, 2}, {impl.EMin, 3, 2, 2}, {impl.EMin, -2, -3, -3}, {impl.EMin, leastWord, greatestWord, leastWord}, {impl.EMin, 4, 4, 4},
		{impl.EMax, 2, 3, 3}, {impl.EMax, 3, 2, 3}, {impl.EMax, -2, -3, -2}, {impl.EMax, leastWord, greatestWord, greatestWord}, {impl.EMax, 4, 4, 4},
	} {
		wantEval(t, impl.Prog{}, impl.Sto{}, []impl.Bind{{Name: "x", N: c.x}, {Name: "y", N: c.y}}, twoExp(c.k, x, y), c.want)
	}
	p := parsed(t, "x = 1; y = 1;")
	for _, a := range numSamples() {
		for _, b := range numSamples() {
			if isWord(a) && isWord(b) {
				for k := impl.EAdd; k <= impl.EMax; k++ {
					wantEval(t, p, impl.Sto{V: []int{a, b}}, nil, twoExp(k, x, y), paired(k, a, b))
				}
			}
		}
	}
}

// What is handed in need be no word: a name and a place tell what stands there, sums are Wrapped.
func TestEvalOfNoWords(t *testing.T) {
	p := parsed(t, "array a 1; x = 1;")
	for _, n := range numSamples() {
		s := impl.Sto{A: [][]int{{n}}, V: []int{n}}
		binds := []impl.Bind{{Name: "i", N: n}}
		for _, e := range []impl.Exp{varExp("x"), varExp("i"), atExp("a", numExp(0))} {
			wantEval(t, p, s, binds, e, n)
			for k := impl.EAdd; k <= impl.EMax; k++ {
				wantEval(t, p, s, binds, twoExp(k, e, numExp(3)), paired(k, n, 3))
			}
		}
		if n != 0 {
			wantNoEval(t, p, s, binds, atExp("a", varExp("i")))
		}
	}
}

// One part that is false makes all of it false, whatever the others are, and however far within.
func TestEvalOfFalseParts(t *testing.T) {
	p := parsed(t, "array a 4; array b 4; x = 1;")
	s := impl.StoNew(p)
	good := []impl.Exp{numExp(0), varExp("x"), atExp("a", numExp(0)), parsedExp(t, "min(0, a[1]) * 2")}
	for _, wrong := range []impl.Exp{atExp("a", numExp(4)), parsedExp(t, "b[0 - 1]"), atExp("c", numExp(0)), parsedExp(t, "a[b[9]]"), parsedExp(t, "0 * a[4]")} {
		wantNoEval(t, p, s, nil, wrong)
		for _, other := range good {
			wantEval(t, p, s, nil, other, 0)
			for k := impl.EAdd; k <= impl.EMax; k++ {
				wantEval(t, p, s, nil, twoExp(k, other, other), 0)
				for _, e := range []impl.Exp{twoExp(k, wrong, other), twoExp(k, other, wrong), twoExp(k, wrong, wrong)} {
					wantNoEval(t, p, s, nil, e)
					wantNoEval(t, p, s, nil, atExp("a", e))
					for outer := impl.EAdd; outer <= impl.EMax; outer++ {
						wantNoEval(t, p, s, nil, twoExp(outer, e, other))
						wantNoEval(t, p, s, nil, twoExp(outer, other, e))
						wantNoEval(t, p, s, nil, twoExp(outer, twoExp(k, other, other), e))
					}
				}
			}
		}
	}
}

// evalTold is what Eval must answer of a right expression.
func evalTold(p impl.Prog, s impl.Sto, binds []impl.Bind, e impl.Exp) (n int, ok bool) {
	w := newTeller(p, s, binds)
	return n, ended(func() { n = w.value(e) }) == nil
}

// wantEvalTold tells whether there is a number.
func wantEvalTold(t *testing.T, p impl.Prog, s impl.Sto, binds []impl.Bind, e impl.Exp) bool {
	t.Helper()
	n, ok := evalTold(p, s, binds, e)
	if ok {
		wantEval(t, p, s, binds, e, n)
	} else {
		wantNoEval(t, p, s, binds, e)
	}
	return ok
}

func TestEvalOfWrongOnes(t *testing.T) {
	p := parsed(t, "array a 8; x = 1;")
	s := impl.StoNew(p)
	s.V[0] = 2
	for i := range s.A[0] {
		s.A[0][i] = i
	}
	right, wrong := 0, 0
	for _, e := range append(expKinds(), parsedExp(t, "a[x] * min(1, a[a[2]]) - max(x, 3)")) {
		for _, other := range append(otherExps(e), e) {
			if impl.ExpOk(other) {
				right++
				wantEvalTold(t, p, s, nil, other)
			} else {
				wrong++
				wantNoEval(t, p, s, nil, other)
			}
		}
	}
	if right < 30 || wrong < 100 {
		t.Errorf("%d right ones and %d wrong ones are too few to tell", right, wrong)
	}
	ring := twoExp(impl.EAdd, impl.Exp{}, impl.Exp{})
	ring.L[0], ring.L[1] = ring, ring
	if n, ok := impl.Eval(p, s, nil, ring); n != 0 || ok {
		t.Errorf("Eval of what stands in itself is %d, %v", n, ok)
	}
	for _, e := range append(deepExps(9), impl.Exp{}, expOfCount(61), deepExps(100000)[0], impl.Exp{K: 9}, impl.Exp{K: -1}) {
		wantNoEval(t, p, s, nil, e)
	}
}

// Just as deep as may be, just as many, and at random.
func TestEvalAsTold(t *testing.T) {
	p := progOf([]impl.Arr{{Name: "a", Size: 16}, {Name: "aa", Size: 1}, {Name: "b", Size: 4}, {Name: "cdefgh", Size: 9}}, setStmt("y", numExp(1)), setStmt("x", numExp(1)), setStmt("zzzzzz", numExp(1)))
	s := impl.StoNew(p)
	s.V = []int{3, -70000, greatestWord}
	for k, l := range s.A {
		for i := range l {
			l[i] = (i*7 + k) % 5
		}
	}
	binds := []impl.Bind{{Name: "j", N: 5}, {Name: "i", N: 9}, {Name: "j", N: 2}, {Name: "k", N: leastWord}}
	good, bad := 0, 0
	want := func(e impl.Exp) {
		if wantEvalTold(t, p, s, binds, e) {
			good++
		} else {
			bad++
		}
	}
	for depth := 1; depth <= 8; depth++ {
		for _, e := range deepExps(depth) {
			want(e)
		}
	}
	for count := 1; count <= 60; count++ {
		want(expOfCount(count))
	}
	m := maker{seed: 7, arrays: []string{"a", "aa", "b", "cdefgh"}}
	for i := range 6000 {
		want(m.exp(1 + i%8))
	}
	if good < 2000 || bad < 500 {
		t.Errorf("%d that have a number and %d that have none are too few to tell", good, bad)
	}
}

// Nothing is written into an argument, what is behind it is not read, and any number of Binds is answered.
func TestEvalLeavesItsArguments(t *testing.T) {
	p := parsed(t, "array a 2; x = 1; y = 1;")
	words, vars := []int{1, 2, 77}, []int{3, 77}
	lists, binds := [][]int{words[:2], {77}}, []impl.Bind{{Name: "i", N: 1}, {Name: "i", N: 77}}
	exps := []impl.Exp{atExp("a", varExp("i")), varExp("y"), numExp(77)}
	s := impl.Sto{A: lists[:1], V: vars[:1], Out: []int{9}, End: 2}
	keep := func() string {
		return fmt.Sprint(words, vars, lists, binds, s) + progText(p) + expText(impl.Exp{L: exps})
	}
	kept := keep()
	for range 2 {
		wantEval(t, p, s, binds[:1], impl.Exp{K: impl.EAdd, L: exps[:2]}, 2)
		wantNoEval(t, p, s, binds[:2], impl.Exp{K: impl.EAdd, L: exps[:2]})
		if keep() != kept {
			t.Fatal("an argument was written into")
		}
	}
	many := slices.Repeat([]impl.Bind{{Name: "i", N: 1}, {Name: "j", N: 2}}, 1000000)
	many[0], many[len(many)-1] = impl.Bind{Name: "k", N: 3}, impl.Bind{Name: "j", N: 4}
	for name, want := range map[string]int{"i": 1, "j": 4, "k": 3, "x": 3, "l": 0} {
		if n, ok := impl.Eval(p, s, many, varExp(name)); n != want || !ok {
			t.Errorf("%s of many is %d, %v", name, n, ok)
		}
	}
}

// Each statement by itself: how all stands, and how much fuel it takes.
func TestRunEachStatement(t *testing.T) {
	one := func(n int) []int { return []int{n} }
	for _, c := range []struct {
		text string
		cost int
		want impl.Sto
	}{
		{"", 0, impl.Sto{}},
		{"array a 2;", 0, impl.Sto{A: [][]int{{0, 0}}}},
		{"x = 5;", 1, impl.Sto{V: one(5)}},
		{"x = x;", 1, impl.Sto{V: one(0)}},
		{"x = 5; x = x + x;", 2, impl.Sto{V: one(10)}},
		{"y = 5; x = y - 6;", 2, impl.Sto{V: []int{-1, 5}}},
		{"print 5;", 1, impl.Sto{Out: one(5)}},
		{"print q; print 1; print 1;", 3, impl.Sto{Out: []int{0, 1, 1}}},
		{"array a 2; a[0] = 5;", 1, impl.Sto{A: [][]int{{5, 0}}}},
		{"array a 2; a[1] = 5;", 1, impl.Sto{A: [][]int{{0, 5}}}},
		{"array b 2; array a 1; b[1] = 5; a[0] = b[1];", 2, impl.Sto{A: [][]int{{5}, {0, 5}}}},
		{"array a 3; a[0] = 1; a[a[0]] = 2; a[a[a[0]]] = a[1] + 7;", 3, impl.Sto{A: [][]int{{1, 2, 9}}}},
		{"array a 2; a[a[1]] = 1; a[a[0]] = a[0] - a[1] + 1;", 2, impl.Sto{A: [][]int{{1, 2}}}},
		{"array a 16; a[0] = 1; a[15] = 2; print a[0]; print a[15]; print a[7];", 5, impl.Sto{A: [][]int{{1, 0, 0, 0, 0, 0, 0, 0, 0, 0, 0, 0, 0, 0, 0, 2}}, Out: []int{1, 2, 0}}},
		{"for i = 1 to 0 { print i; }", 1, impl.Sto{}},
		{"for i = 9 to 1 { x = 1; }", 1, impl.Sto{V: one(0)}},
		{"for i = 0 - 1 to 0 - 2 { x = 1; }", 1, impl.Sto{V: one(0)}},
		{"for i = 4 to 4 { print i; }", 3, impl.Sto{Out: one(4)}},
		{"for i = 0 - 1 to 1 { print i; }", 7, impl.Sto{Out: []int{-1, 0, 1}}},
		{"for i = 2 to 4 { print i; x = x + i; }", 10, impl.Sto{V: one(9), Out: []int{2, 3, 4}}},
		// The name is bound in the Body alone.
		{"print i; for i = i + 3 to i + 4 { print i; } print i;", 7, impl.Sto{Out: []int{0, 3, 4, 0}}},
		// Lo and Hi are worked out once, and ahead of all rounds.
		{"x = 2; for i = x to x { x = 9; } print x;", 5, impl.Sto{V: one(9), Out: one(9)}},
		{"x = 1; for i = 0 to x { x = x + 5; print i; }", 8, impl.Sto{V: one(11), Out: []int{0, 1}}},
		{"x = 2; for i = 0 to x { x = 0; print i; }", 11, impl.Sto{V: one(0), Out: []int{0, 1, 2}}},
		{"array a 1; a[0] = 1; for i = a[0] to a[0] + 1 { a[0] = 7; }", 6, impl.Sto{A: [][]int{{7}}}},
		// Loops within loops, which bind one name and another; the inner one asks the outer one.
		{"for i = 0 to 1 { for j = i to 1 { print i * 10 + j; } }", 11, impl.Sto{Out: []int{0, 1, 11}}},
		{"for i = 1 to 2 { for j = 1 to 2 { for k = i to j { print i * 100 + j * 10 + k; } } }", 21, impl.Sto{Out: []int{111, 121, 122, 222}}},
		{"for i = 0 to 1 { for j = 5 to 5 { print i; } print j; for j = 6 to 6 { print j; } }", 17, impl.Sto{Out: []int{0, 0, 6, 1, 0, 6}}},
		{"for i = 0 to 2 { for j = 1 to 0 { print 1; } x = i; }", 10, impl.Sto{V: one(2)}},
		{"for i = 0 to 1 { x = x + 1; } for i = 5 to 6 { x = x + i; }", 10, impl.Sto{V: one(13)}},
		{"x = 999999 * 999999; y = x * 3; print x - 999999 * 999; print min(x, y); print max(x, y);", 5, impl.Sto{V: []int{-729379967, 2106827395}, Out: []int{-1728378968, -729379967, 2106827395}}},
	} {
		p := parsed(t, c.text)
		wantSto(t, impl.Run(p, c.cost), c.want, "Run of ", c.text)
		if c.cost > 0 && impl.Run(p, c.cost-1).End != impl.EndFuel {
			t.Errorf("Run of %q ends with less than %d", c.text, c.cost)
		}
		if end, cost := wantTold(t, p, 100); end != impl.EndGood || cost != c.cost {
			t.Errorf("%q ends with %d at %d", c.text, end, cost)
		}
	}
}

// How all stands at each fuel of one program, by hand.
func TestRunFuelByFuel(t *testing.T) {
	p := parsed(t, "array a 2; x = 7; for i = 0 to 1 { a[i] = x; x = x + 1; } print x;")
	fuel := impl.EndFuel
	for at, want := range []impl.Sto{
		{A: [][]int{{0, 0}}, V: []int{0}, End: fuel},
		{A: [][]int{{0, 0}}, V: []int{7}, End: fuel},
		{A: [][]int{{0, 0}}, V: []int{7}, End: fuel},
		{A: [][]int{{0, 0}}, V: []int{7}, End: fuel},
		{A: [][]int{{7, 0}}, V: []int{7}, End: fuel},
		{A: [][]int{{7, 0}}, V: []int{8}, End: fuel},
		{A: [][]int{{7, 0}}, V: []int{8}, End: fuel},
		{A: [][]int{{7, 8}}, V: []int{8}, End: fuel},
		{A: [][]int{{7, 8}}, V: []int{9}, End: fuel},
		{A: [][]int{{7, 8}}, V: []int{9}, Out: []int{9}},
		{A: [][]int{{7, 8}}, V: []int{9}, Out: []int{9}},
	} {
		wantSto(t, impl.Run(p, at), want, "Run at ", at)
	}
	for _, none := range []int{math.MinInt, -9, -1, 4001, 4009, 1<<32 + 9, math.MaxInt} {
		wantSto(t, impl.Run(p, none), impl.Sto{A: [][]int{{0, 0}}, V: []int{0}, End: fuel}, "Run at ", none)
		// What needs no fuel ends well at any.
		wantSto(t, impl.Run(impl.Prog{}, none), impl.Sto{}, "Run at ", none)
		wantSto(t, impl.Run(progOf(arrsOf("a")), none), impl.Sto{A: [][]int{{0, 0, 0, 0}}}, "Run at ", none)
	}
	// Fuel is asked for ahead of what is false.
	for _, text := range []string{"array a 1; print a[1];", "array a 1; a[1] = 1;", "array a 1; for i = a[1] to 0 { print 1; }"} {
		for at, end := range []int{impl.EndFuel, impl.EndTrap, impl.EndTrap} {
			if got := impl.Run(parsed(t, text), at).End; got != end {
				t.Errorf("Run at %d of %q ends with %d", at, text, got)
			}
		}
	}
}

// A place that is not there ends all: what was done ahead of it stays, and nothing is done any more.
func TestRunTraps(t *testing.T) {
	for _, c := range []struct {
		text string
		cost int
		want impl.Sto
	}{
		{"array a 2; print 5; a[2] = 1; print 6;", 2, impl.Sto{A: [][]int{{0, 0}}, Out: []int{5}}},
		{"array a 2; print 5; a[0 - 1] = 1; print 6;", 2, impl.Sto{A: [][]int{{0, 0}}, Out: []int{5}}},
		{"array a 2; print 5; x = a[2]; x = 1;", 2, impl.Sto{A: [][]int{{0, 0}}, V: []int{0}, Out: []int{5}}},
		{"array a 2; x = 4; x = a[0 - 1] * 0; print x;", 2, impl.Sto{A: [][]int{{0, 0}}, V: []int{4}}},
		{"array a 2; print a[2]; print 1;", 1, impl.Sto{A: [][]int{{0, 0}}}},
		{"array a 2; a[a[2]] = 1; print 1;", 1, impl.Sto{A: [][]int{{0, 0}}}},
		{"array a 2; a[1] = 3; a[1] = a[2]; print 1;", 2, impl.Sto{A: [][]int{{0, 3}}}},
		{"array a 2; a[2] = a[2]; print 1;", 1, impl.Sto{A: [][]int{{0, 0}}}},
		{"array a 1; print 1; for i = a[1] to 3 { print 2; } print 3;", 2, impl.Sto{A: [][]int{{0}}, Out: []int{1}}},
		{"array a 1; print 1; for i = 0 to a[1] { print 2; } print 3;", 2, impl.Sto{A: [][]int{{0}}, Out: []int{1}}},
		{"array a 1; print 1; for i = 5 to a[1] { print 2; } print 3;", 2, impl.Sto{A: [][]int{{0}}, Out: []int{1}}},
		{"array a 2; for i = 0 to 3 { print i; a[i] = i + 1; x = i; } print 9;", 12, impl.Sto{A: [][]int{{1, 2}}, V: []int{1}, Out: []int{0, 1, 2}}},
		{"array a 2; for i = 2 to 0 { a[9] = 1; } for i = 0 to 9 { for j = 0 to 9 { print j; print a[i + j]; } print 7; } print 8;", 13, impl.Sto{A: [][]int{{0, 0}}, Out: []int{0, 0, 1, 0, 2}}},
		{"array a 3; for i = 0 to 2 { for j = i to 2 { for k = 1 to 1 { a[i + j] = a[i + j] + 1; } } }", 25, impl.Sto{A: [][]int{{1, 1, 2}}}},
		{"array a 2; array b 4; b[3] = 1; b[1] = 2; a[1] = 4; print b[a[1]];", 4, impl.Sto{A: [][]int{{0, 4}, {0, 2, 0, 1}}}},
		{"array a 1; a[999999 * 999999] = 1;", 1, impl.Sto{A: [][]int{{0}}}},
	} {
		p := parsed(t, c.text)
		c.want.End = impl.EndTrap
		wantSto(t, impl.Run(p, c.cost), c.want, "Run of ", c.text)
		wantSto(t, impl.Run(p, impl.MaxFuel), c.want, "Run of ", c.text)
		if end, cost := wantTold(t, p, 100); end != impl.EndTrap || cost != c.cost {
			t.Errorf("%q ends with %d at %d, not at %d", c.text, end, cost, c.cost)
		}
	}
	// A place that goes round is there again.
	wantSto(t, impl.Run(parsed(t, "array a 1; x = 65536; a[x * x] = 3;"), 9), impl.Sto{A: [][]int{{3}}, V: []int{65536}}, "Run")
}

func TestRunPlaces(t *testing.T) {
	for size := 1; size <= 16; size++ {
		for place := -2; place <= 18; place++ {
			for _, text := range []string{"a[%s] = 7;", "x = a[%s];", "print a[%s];", "for i = a[%s] to 0 { print 7; }", "for i = 0 to a[%s] { print 7; }"} {
				at := strconv.Itoa(place)
				if place < 0 {
					at = "0 - " + strconv.Itoa(-place)
				}
				p := parsed(t, "array a "+strconv.Itoa(size)+"; print 1; "+fmt.Sprintf(text, at)+" print 2;")
				end, _ := wantTold(t, p, 20)
				if (end == impl.EndGood) != (0 <= place && place < size) {
					t.Errorf("%q ends with %d", impl.ProgText(p), end)
				}
			}
		}
	}
}

// The most fuel there is, and one less; and what needs one more.
func TestRunAtMostFuel(t *testing.T) {
	ends := func(text string, fuel, want int) impl.Sto {
		t.Helper()
		s := impl.Run(parsed(t, text), fuel)
		if s.End != want {
			t.Errorf("Run at %d of %q ends with %d", fuel, text, s.End)
		}
		return s
	}
	just := "for i = 1 to 1333 { x = x + i; y = y + 1; }"
	if s := ends(just, impl.MaxFuel, impl.EndGood); s.V[0] != 1333*1334/2 || s.V[1] != 1333 {
		t.Errorf("%v", s.V)
	}
	if s := ends(just, impl.MaxFuel-1, impl.EndFuel); s.V[0] != 1333*1334/2 || s.V[1] != 1332 {
		t.Errorf("%v", s.V)
	}
	if s := ends(just+" print 1;", impl.MaxFuel, impl.EndFuel); s.V[1] != 1333 || len(s.Out) != 0 {
		t.Errorf("%v", s)
	}
	if s := ends("for i = 1 to 999999 { print i; }", impl.MaxFuel, impl.EndFuel); len(s.Out) != 1999 || s.Out[1998] != 1999 {
		t.Errorf("%d were printed", len(s.Out))
	}
	if s := ends("for i = 0 to 999999 { for j = 0 to 999999 { for k = 2 to 1 { x = 1; } y = y + 1; } }", impl.MaxFuel, impl.EndFuel); s.V[1] != 1332 || s.V[0] != 0 {
		t.Errorf("%v", s.V)
	}
	for _, text := range []string{just, just + " print 1;", "print 1; " + just, "for i = 0 to 999999 { for j = 0 to i { x = x + j; } }"} {
		wantTold(t, parsed(t, text), impl.MaxFuel)
	}
}

// Loops at both ends of what a word can be.
func TestRunLoopsAtTheEnds(t *testing.T) {
	greatest := "g = 2147 * (999999 + 1) + 483647; l = g + 1; "
	for text, want := range map[string][]int{
		"for i = g - 1 to g { print i; }":              {greatestWord - 1, greatestWord},
		"for i = g to g { print i + 1; }":              {leastWord},
		"for i = l to l + 1 { print i; print i - 1; }": {leastWord, greatestWord, leastWord + 1, leastWord},
		"for i = l to l { print i; }":                  {leastWord},
		"for i = g to l { print i; }":                  nil,
		"for i = g to g + 1 { print i; }":              nil,
		"print g; print l; print l - 1;":               {greatestWord, leastWord, greatestWord},
	} {
		p := parsed(t, greatest+text)
		wantSto(t, impl.Run(p, 100), impl.Sto{V: []int{greatestWord, leastWord}, Out: want}, "Run of ", text)
		wantTold(t, p, 100)
	}
	p := parsed(t, greatest+"for i = l to g { x = i; }")
	wantSto(t, impl.Run(p, impl.MaxFuel), impl.Sto{V: []int{greatestWord, leastWord, leastWord + (impl.MaxFuel-3)/2 - 1}, End: impl.EndFuel}, "Run")
}

func TestRunOfWrongOnes(t *testing.T) {
	a, one := arrsOf("a"), printStmt(numExp(1))
	want := impl.Sto{End: impl.EndTrap}
	for _, p := range []impl.Prog{
		progOf(nil, impl.Stmt{}), progOf(a, one, impl.Stmt{}), progOf(nil, setStmt("x", numExp(1)), loopIn("i")), progOf([]impl.Arr{{Name: "a"}}), progOf([]impl.Arr{{Name: "a", Size: 17}}),
		progOf(arrsOf("b", "a"), one), progOf(arrsOf("a", "a"), one), progOf(arrsOf("a", "b", "c", "d", "e"), one), progOf(nil, putStmt("a", numExp(0), numExp(1))),
		progOf(a, printStmt(varExp("a"))), progOf(a, setStmt("a", numExp(1))), progOf(nil, loopIn("i", setStmt("i", numExp(1)))), progOf(nil, loopIn("i", loopIn("i", one))),
		progOf(nil, slices.Repeat([]impl.Stmt{one}, 13)...), progOf(nil, printStmt(numExp(1000000))), progOf(nil, loopOf(40)), progOf(nil, one, printStmt(expOfCount(61))),
	} {
		for _, fuel := range []int{-1, 0, 1, 9, 4000, 4001} {
			wantSto(t, impl.Run(p, fuel), want, "Run of ", progText(p))
		}
	}
	round := loopIn("i", make([]impl.Stmt, 2)...)
	round.Body[0], round.Body[1] = round, round
	deep := one
	for range 100000 {
		deep = loopIn("i", deep)
	}
	for _, p := range []impl.Prog{progOf(nil, round), progOf(nil, deep), progOf(slices.Repeat(a, 100000)), progOf(nil, slices.Repeat([]impl.Stmt{one}, 100000)...)} {
		if s := impl.Run(p, 9); stoText(s) != stoText(want) {
			t.Errorf("Run of what is too deep or too long is %s", stoText(s))
		}
	}
	right, wrong := 0, 0
	for _, p := range manyProgs() {
		if impl.ProgOk(p) {
			right++
			wantTold(t, p, 40)
		} else {
			wrong++
			wantSto(t, impl.Run(p, 40), want, "Run of ", progText(p))
		}
	}
	if right < 200 || wrong < 2000 {
		t.Errorf("%d right ones and %d wrong ones are too few to tell", right, wrong)
	}
}

// sum is an expression of small numbers, and place one that is a place of most arrays.
func (m *maker) sum(names []string, depth int) string {
	if depth == 0 || m.pick(3) == 0 {
		return append(names, "0", "1", "2", "3", "x", "y")[m.pick(len(names)+6)]
	}
	left, right := m.sum(names, depth-1), m.sum(names, depth-1)
	switch m.pick(7) {
	case 0:
		return "a[" + m.place(names) + "]"
	case 1:
		return "b[" + m.place(names) + "]"
	case 2:
		return "min(" + left + ", " + right + ")"
	case 3:
		return "max(" + left + ", " + right + ")"
	}
	return "(" + left + []string{" + ", " - ", " * "}[m.pick(3)] + right + ")"
}

func (m *maker) place(names []string) string {
	if m.pick(12) == 0 {
		return m.sum(names, 1)
	}
	return "max(0, min(" + m.sum(names, 1) + ", 3))"
}

// lines are statements that mostly end well; outer are the loops around.
func (m *maker) lines(outer []string, count int) string {
	var b strings.Builder
	for range count {
		sum := m.sum(outer, 2)
		switch m.pick(6) {
		case 0, 1:
			b.WriteString([]string{"x", "y"}[m.pick(2)] + " = " + sum + ";\n")
		case 2:
			b.WriteString([]string{"a", "b"}[m.pick(2)] + "[" + m.place(outer) + "] = " + sum + ";\n")
		case 3:
			b.WriteString("print " + sum + ";\n")
		default:
			if len(outer) == 3 {
				b.WriteString("print " + sum + ";\n")
				continue
			}
			name := []string{"i", "j", "k"}[len(outer)]
			b.WriteString("for " + name + " = " + m.sum(outer, 1) + " to min(4, " + m.sum(outer, 1) + " + 1) {\n")
			b.WriteString(m.lines(append(slices.Clone(outer), name), 1+m.pick(3)) + "}\n")
		}
	}
	return b.String()
}

// runProgs are programs at random, those that end well and others, and some that are made with no thought of that.
func runProgs() []impl.Prog {
	m := maker{seed: 70}
	var progs []impl.Prog
	for len(progs) < 800 {
		text := "array a 4; array b 6;\n" + m.lines(nil, 1+m.pick(5))
		if p, ok := impl.Parse(text); ok {
			progs = append(progs, p)
		}
	}
	for i := range 400 {
		progs = append(progs, m.prog(1+i%4))
	}
	return progs
}

func TestRunAsTold(t *testing.T) {
	ends := map[int]int{}
	longest := 0
	for _, p := range runProgs() {
		end, cost := wantTold(t, p, 200)
		ends[end]++
		if end == impl.EndGood {
			longest = max(longest, cost)
		}
	}
	if ends[impl.EndGood] < 500 || ends[impl.EndTrap] < 100 || ends[impl.EndFuel] < 50 || longest < 100 {
		t.Errorf("%v, the longest of %d, are too few to tell", ends, longest)
	}
}

// P7: what has ended is the same with more fuel, up to all there is; and what has not has done no more than what goes on from there.
func TestMoreFuelIsTheSame(t *testing.T) {
	progs := runProgs()
	for _, text := range []string{"", "array a 3;", "print 1;", "array a 1; print 1; print a[1]; print 2;", "for i = 1 to 1333 { x = x + i; y = y + 1; }", "for i = 0 to 1332 { print i; print i; } print 1;"} {
		progs = append(progs, parsed(t, text))
	}
	ended := 0
	for at, p := range progs {
		end := impl.Run(p, impl.MaxFuel)
		last := impl.Run(p, 0)
		steps := []int{0, 1, 2, 3, 4, 5, 6, 8, 11, 15, 20, 27, 40, 80, 150, 300, 1000, 2500, 3998, 3999, 4000}
		if at%40 == 0 {
			steps = nil
			for fuel := 0; fuel <= 150; fuel++ {
				steps = append(steps, fuel)
			}
		}
		for _, fuel := range steps {
			s := impl.Run(p, fuel)
			if last.End != impl.EndFuel && !impl.SameSto(s, last) {
				t.Errorf("%q has ended as %s, and at %d is %s", impl.ProgText(p), stoText(last), fuel, stoText(s))
			}
			if s.End != impl.EndFuel {
				ended++
				wantSto(t, s, end, "Run at ", fuel, " of ", p)
			}
			if len(s.Out) < len(last.Out) || !slices.Equal(s.Out[:len(last.Out)], last.Out) {
				t.Errorf("%q printed %v, and at %d %v", impl.ProgText(p), last.Out, fuel, s.Out)
			}
			last = s
		}
	}
	if ended < 5000 {
		t.Errorf("%d that ended are too few to tell", ended)
	}
}

// Each answer is of its own, nothing is kept for the next one, and nothing is written into the program.
func TestRunLeavesItsArguments(t *testing.T) {
	arrRoom := append(arrsOf("a", "b"), impl.Arr{Name: "behind", Size: 3})
	expRoom := []impl.Exp{varExp("x"), atExp("b", numExp(0)), varExp("behind")}
	e := impl.Exp{K: impl.EAdd, L: expRoom[:2]}
	bodyRoom := []impl.Stmt{setStmt("x", twoExp(impl.EAdd, e, numExp(1))), putStmt("a", e, e), setStmt("behind", e)}
	loop := forStmt("i", e, numExp(2))
	loop.Body = bodyRoom[:2]
	topRoom := []impl.Stmt{loop, printStmt(e), setStmt("behind", e)}
	keep := func() string {
		return progText(impl.Prog{Arrs: arrRoom, Body: topRoom}) + stmtText(impl.Stmt{Body: bodyRoom}) + expText(impl.Exp{L: expRoom})
	}
	kept := keep()
	p := impl.Prog{Arrs: arrRoom[:2], Body: topRoom[:2]}
	for range 3 {
		s := impl.Run(p, 100)
		wantStoOwn(t, s)
		wantSto(t, s, impl.Sto{A: [][]int{{0, 1, 2, 3}, {0, 0, 0, 0}}, V: []int{3}, Out: []int{3}}, "Run")
		for _, l := range append(s.A, s.V, s.Out) {
			for i := range l[:cap(l)] {
				l[:cap(l)][i] = 7
			}
		}
		if keep() != kept {
			t.Fatal("an argument was written into")
		}
	}
	for _, p := range runProgs()[:300] {
		text := progText(p)
		wantStoOwn(t, impl.Run(p, 200))
		if progText(p) != text {
			t.Fatal("an argument was written into")
		}
	}
}

// otherStos are copies of s that part from it in one single thing.
func otherStos(s impl.Sto) []impl.Sto {
	var out []impl.Sto
	add := func(change func(*impl.Sto)) {
		c := copySto(s)
		change(&c)
		out = append(out, c)
	}
	lists := func(of func(*impl.Sto) *[]int) {
		add(func(c *impl.Sto) { l := of(c); *l = append(*l, 0) })
		add(func(c *impl.Sto) { l := of(c); *l = append([]int{7}, *l...) })
		for i := range *of(&s) {
			for _, by := range []int{1, -1, 1 << 32} {
				add(func(c *impl.Sto) { (*of(c))[i] += by })
			}
			add(func(c *impl.Sto) { l := of(c); *l = slices.Delete(*l, i, i+1) })
		}
	}
	lists(func(c *impl.Sto) *[]int { return &c.V })
	lists(func(c *impl.Sto) *[]int { return &c.Out })
	for k := range s.A {
		lists(func(c *impl.Sto) *[]int { return &c.A[k] })
		add(func(c *impl.Sto) { c.A = slices.Delete(c.A, k, k+1) })
		add(func(c *impl.Sto) { c.A = slices.Insert(c.A, k, nil) })
	}
	add(func(c *impl.Sto) { c.A = append(c.A, nil) })
	for _, end := range []int{-1, impl.EndGood, impl.EndTrap, impl.EndFuel, 3, s.End + 1<<32} {
		if end != s.End {
			add(func(c *impl.Sto) { c.End = end })
		}
	}
	return out
}

func wantSameSto(t *testing.T, want bool, a, b impl.Sto) {
	t.Helper()
	if impl.SameSto(a, b) != want || impl.SameSto(b, a) != want {
		t.Errorf("SameSto of %s and %s is %v", stoText(a), stoText(b), !want)
	}
}

func TestSameSto(t *testing.T) {
	stos := []impl.Sto{
		{}, {End: impl.EndTrap}, {End: impl.EndFuel}, {V: []int{0}}, {Out: []int{0}}, {A: [][]int{{0}}}, {A: [][]int{nil}}, {A: [][]int{nil, nil}},
		{A: [][]int{{1, 2}, {3}}, V: []int{4, 5}, Out: []int{6, 7, 8}},
		{A: [][]int{{1}, {2, 3}}, V: []int{4, 5}, Out: []int{6, 7, 8}},
		{A: [][]int{{3}, {1, 2}}, V: []int{4, 5}, Out: []int{6, 7, 8}},
		{A: [][]int{{1, 2, 3}}, V: []int{4, 5}, Out: []int{6, 7, 8}},
		{A: [][]int{{2, 1}, {3}}, V: []int{4, 5}, Out: []int{6, 7, 8}},
		{A: [][]int{{1, 2}, {3}}, V: []int{5, 4}, Out: []int{6, 7, 8}},
		{A: [][]int{{1, 2}, {3}}, V: []int{4, 5}, Out: []int{6, 8, 7}},
		{A: [][]int{{1, 2}, {3}}, V: []int{4, 5, 6}, Out: []int{7, 8}},
		{A: [][]int{{1, 2}, {3}}, V: []int{6, 7, 8}, Out: []int{4, 5}},
		{A: [][]int{{1, 2}, {3}, {4, 5}}, Out: []int{6, 7, 8}},
		{A: [][]int{{1, 2}, {3}}, V: []int{4, 5}, Out: []int{6, 7, 8}, End: impl.EndTrap},
		{A: [][]int{{leastWord}, {greatestWord, math.MinInt}}, V: []int{math.MaxInt}, End: -5},
	}
	for i, a := range stos {
		for k, b := range stos {
			wantSameSto(t, i == k, a, copySto(b))
		}
		for _, other := range otherStos(a) {
			wantSameSto(t, stoText(a) == stoText(other), a, other)
			if stoText(a) == stoText(other) {
				t.Fatalf("%s is no other", stoText(a))
			}
		}
	}
	// An empty list and nil are one; a list of one that is empty is not.
	empty := []int{}
	wantSameSto(t, true, impl.Sto{}, impl.Sto{A: [][]int{}, V: empty, Out: empty})
	wantSameSto(t, true, impl.Sto{A: [][]int{nil, {1}, {}}}, impl.Sto{A: [][]int{{}, {1}, nil}, Out: empty})
	wantSameSto(t, false, impl.Sto{}, impl.Sto{A: [][]int{nil}})
	wantSameSto(t, false, impl.Sto{A: [][]int{nil}}, impl.Sto{A: [][]int{{}, {}}})
	// What is behind a list is not looked at.
	wantSameSto(t, true, impl.Sto{V: []int{1, 2}[:1], Out: []int{3, 4}[:1], A: [][]int{append([]int{5}, 6)[:1], {7}}[:1]}, impl.Sto{V: []int{1, 9}[:1], Out: []int{3}, A: [][]int{{5}}})
}

// Of what Run answers the same ones are the same, and the others are not.
func TestSameStoOfRuns(t *testing.T) {
	var stos []impl.Sto
	for _, p := range runProgs()[:60] {
		stos = append(stos, impl.StoNew(p), impl.Run(p, 5), impl.Run(p, 100))
	}
	same := 0
	for _, a := range stos {
		for _, b := range stos {
			wantSameSto(t, stoText(a) == stoText(b), a, b)
			if stoText(a) == stoText(b) {
				same++
			}
		}
	}
	if same <= len(stos) || same == len(stos)*len(stos) {
		t.Errorf("%d that are the same are not enough to tell", same)
	}
}
