package tests

import (
	"fmt"
	"math"
	"slices"
	"testing"

	"loop.example/g00476/impl"
)

func far(a, b, d int) impl.Dep { return impl.Dep{A: a, B: b, Far: true, D: d} }

func near(a, b int) impl.Dep { return impl.Dep{A: a, B: b} }

func wantDeps(t *testing.T, s impl.Stmt, want ...impl.Dep) {
	t.Helper()
	if l, ok := impl.DepsOf(s); !slices.Equal(l, want) || !ok {
		t.Errorf("DepsOf of %.400s are %v, %v, not %v", stmtText(s), l, ok, want)
	}
	var dists []int
	for _, d := range want {
		if !d.Far {
			wantNoDists(t, s)
			return
		}
		dists = append(dists, d.D)
	}
	slices.Sort(dists)
	wantDists(t, s, slices.Compact(dists)...)
}

func wantDists(t *testing.T, s impl.Stmt, want ...int) {
	t.Helper()
	if l, ok := impl.Dists(s); !slices.Equal(l, want) || !ok {
		t.Errorf("Dists of %.400s are %v, %v, not %v", stmtText(s), l, ok, want)
	}
}

func wantNoDists(t *testing.T, s impl.Stmt) {
	t.Helper()
	if l, ok := impl.Dists(s); len(l) != 0 || ok {
		t.Errorf("Dists of %.400s are %v, %v", stmtText(s), l, ok)
	}
}

// wantNothingTold is of what AccsOf is not.
func wantNothingTold(t *testing.T, s impl.Stmt) {
	t.Helper()
	if l, ok := impl.DepsOf(s); len(l) != 0 || ok {
		t.Errorf("DepsOf of %.400s are %v, %v", stmtText(s), l, ok)
	}
	wantNoDists(t, s)
	for i := -1; i <= 3; i++ {
		for k := -1; k <= 3; k++ {
			wantNeeds(t, false, s, i, k)
		}
	}
}

func wantNeeds(t *testing.T, want bool, s impl.Stmt, i, k int) {
	t.Helper()
	if impl.Needs(s, i, k) != want || impl.Needs(s, k, i) != want {
		t.Errorf("Needs of %.400s, %d and %d, is %v, the other way round %v", stmtText(s), i, k, impl.Needs(s, i, k), impl.Needs(s, k, i))
	}
}

func TestDepsOfWhatIsNotTold(t *testing.T) {
	for _, text := range []string{
		"a[1] = a[1];", "x = a[1];", "print a[1];", "for i = 0 to 3 { a[1] = 1; print 1; }", "for i = 0 to 3 { a[a[i]] = 1; }", "for i = 0 to 3 { a[x] = 1; }", "for i = 0 to 3 { a[i * i] = 1; }", "for i = 0 to 3 { a[min(i, 1)] = 1; }", "for i = 1 to 0 { a[1] = 1; }", "for i = 0 to x { a[1] = 1; }", "for i = 0 to 10001 { a[1] = 1; }", "for i = 0 to 3 { a[i] = 1; for j = i to 3 { a[j] = 1; } }", "for i = 0 to 3 { a[i] = 1; for j = 0 to 3 { print a[j]; } }",
	} {
		wantNothingTold(t, loopParsed(t, text))
	}
	wantNothingTold(t, impl.Stmt{})
	inner := putStmt("a", numExp(1), atExp("a", varExp("i")))
	for k := -1; k <= 6; k++ {
		s := impl.Stmt{K: k, S: "i", Lo: numExp(0), Hi: numExp(3), Body: []impl.Stmt{inner}}
		if k != impl.SFor {
			wantNothingTold(t, s)
			continue
		}
		wantDeps(t, s, near(0, 1), near(1, 1))
		s.S = "for"
		wantNothingTold(t, s)
	}
	wantDeps(t, loopIn("i"))
}

func TestDepsOf(t *testing.T) {
	for _, c := range []struct {
		text string
		want []impl.Dep
	}{
		// Nothing is touched, or by one alone, in each round another place.
		{"for i = 0 to 5 { x = i; }", nil}, {"for i = 0 to 5 { x = a[i]; }", nil}, {"for i = 0 to 5 { a[i] = 1; }", nil}, {"for i = 0 to 5 { a[5 - i] = 1; }", nil},
		// Of two arrays, and only asked.
		{"for i = 0 to 5 { a[i] = b[i + 1]; }", nil}, {"for i = 0 to 5 { a[1] = b[1]; }", []impl.Dep{near(1, 1)}}, {"for i = 0 to 5 { x = a[i] + a[i + 1] + a[3] + a[i * 2]; }", nil},
		// Put and asked in the same round.
		{"for i = 0 to 5 { a[i] = a[i]; }", nil}, {"for i = 0 to 5 { a[i] = a[i] + 1; x = a[i]; a[i] = x; }", nil}, {"for i = 0 to 5 { a[2 * i + 1] = a[i + 1 + i]; }", nil},
		// What meets itself in another round.
		{"for i = 0 to 5 { a[3] = i; }", []impl.Dep{near(0, 0)}}, {"for i = 0 to 5 { a[i - i] = i; }", []impl.Dep{near(0, 0)}}, {"for i = 4 to 4 { a[3] = i; }", []impl.Dep{near(0, 0)}}, {"for i = 0 to 5 { a[3] = i; a[4] = i; }", []impl.Dep{near(0, 0), near(1, 1)}}, {"for i = 0 to 5 { a[3] = i; a[3] = i; }", []impl.Dep{near(0, 0), near(0, 1), near(1, 1)}},
		// Later, and ahead.
		{"for i = 0 to 5 { a[i + 1] = a[i]; }", []impl.Dep{far(0, 1, 1)}}, {"for i = 0 to 5 { a[i] = a[i + 1]; }", []impl.Dep{far(0, 1, 1)}}, {"for i = 0 to 5 { a[i + 3] = a[i]; }", []impl.Dep{far(0, 1, 3)}}, {"for i = 0 to 5 { a[i] = a[i + 3]; }", []impl.Dep{far(0, 1, 3)}}, {"for i = 0 to 5 { a[2 * i] = a[2 * i + 4]; }", []impl.Dep{far(0, 1, 2)}}, {"for i = 0 to 5 { a[5 - i] = a[7 - i]; }", []impl.Dep{far(0, 1, 2)}}, {"for i = 0 to 5 { a[7 - i] = a[5 - i]; }", []impl.Dep{far(0, 1, 2)}}, {"for i = 0 to 5 { a[i] = 1; a[i + 2] = 1; }", []impl.Dep{far(0, 1, 2)}}, {"for i = 0 to 5 { x = a[i]; a[i + 2] = x; }", []impl.Dep{far(0, 1, 2)}}, {"for i = 0 to 5 { a[i + 2] = x; x = a[i]; }", []impl.Dep{far(0, 1, 2)}},
		// Never at the same place.
		{"for i = 0 to 5 { a[2 * i] = a[2 * i + 1]; }", nil}, {"for i = 0 to 5 { a[3 * i] = a[3 * i + 5]; }", nil}, {"for i = 0 to 5 { a[i] = a[9]; }", nil},
		// As far apart as there are rounds, and one less.
		{"for i = 0 to 5 { a[i] = a[i + 6]; }", nil}, {"for i = 0 to 5 { a[i] = a[i + 5]; }", []impl.Dep{far(0, 1, 5)}}, {"for i = 3 to 8 { a[i - 3] = a[i + 3]; }", nil}, {"for i = 3 to 8 { a[i - 3] = a[i + 2]; }", []impl.Dep{far(0, 1, 5)}}, {"for i = 2 to 2 { a[i] = a[i + 1]; }", nil}, {"for i = 2 to 3 { a[i] = a[i + 1]; }", []impl.Dep{far(0, 1, 1)}}, {"for i = 2 to 3 { a[i] = a[i + 2]; }", nil},
		// By how many rounds is not known.
		{"for i = 0 to 5 { a[i] = a[3]; }", []impl.Dep{near(0, 1)}}, {"for i = 0 to 5 { a[2 * i] = a[i]; }", []impl.Dep{near(0, 1)}}, {"for i = 0 to 5 { a[i] = a[5 - i]; }", []impl.Dep{near(0, 1)}}, {"for i = 0 to 5 { a[6 - i] = a[i]; x = a[i]; }", []impl.Dep{near(0, 1), near(1, 2)}},
	} {
		wantDeps(t, loopParsed(t, c.text), c.want...)
	}
}

// One after the other from the front, A up to B.
func TestDepsOfInOrder(t *testing.T) {
	wantDeps(t, loopParsed(t, "for i = 2 to 7 { a[i] = a[i - 2] + b[i]; b[i] = a[i + 1]; }"), far(0, 2, 2), far(2, 3, 1))
	wantDeps(t, loopParsed(t, "for i = 2 to 7 { x = a[i - 1] + a[i] + a[i + 1]; a[i] = x; }"), far(0, 3, 1), far(2, 3, 1))
	wantDeps(t, loopParsed(t, "for i = 2 to 7 { a[i] = x; x = a[i - 1] + a[i] + a[i + 2]; }"), far(0, 1, 1), far(0, 3, 2))
	wantDeps(t, loopParsed(t, "for i = 0 to 5 { a[3] = a[i]; b[i] = a[i + 1]; b[i + 2] = 7; a[i] = b[0]; }"), near(0, 1), near(1, 1), near(1, 2), near(1, 6), far(2, 6, 1), far(3, 4, 2), near(3, 5))
}

func TestDepsOfLoopsWithin(t *testing.T) {
	for text, want := range map[string][]impl.Dep{
		"for i = 0 to 2 { for j = 0 to 2 { a[3 * i + j] = a[3 * i + j] + 1; } }": nil,
		"for i = 0 to 2 { for j = 0 to 2 { a[2 * i + j] = 1; } }":                {near(0, 0)},
		"for i = 0 to 2 { for j = 0 to 2 { a[i] = a[i] + j; } }":                 nil,
		"for i = 0 to 2 { for j = 0 to 2 { a[j] = i; } }":                        {near(0, 0)},
		"for i = 0 to 2 { for j = 0 to 2 { a[i + 1] = a[i] + j; } }":             {far(0, 1, 1)},
		"for i = 0 to 2 { a[5 * i] = 1; for j = 1 to 4 { x = a[5 * i + j]; } }":  nil,
		"for i = 0 to 2 { a[4 * i] = 1; for j = 1 to 4 { x = a[4 * i + j]; } }":  {near(0, 1)},
	} {
		wantDeps(t, loopParsed(t, text), want...)
	}
	s := loopParsed(t, "for i = 0 to 2 { for j = 0 to 2 { a[i + 2 * j] = a[i + 2 * j + 2]; } }")
	wantDeps(t, s, near(0, 1), near(1, 1))
	wantNothingTold(t, s.Body[0])
}

func TestDists(t *testing.T) {
	for text, want := range map[string][]int{
		"for i = 0 to 5 { x = i; }": nil, "for i = 0 to 5 { a[i] = a[i]; }": nil,
		// Several, in order, two that are alike once.
		"for i = 0 to 5 { a[i] = a[i + 5] + a[i + 3] + a[i + 4]; }": {3, 4, 5}, "for i = 0 to 5 { a[i + 2] = a[i] + a[i + 4]; }": {2}, "for i = 0 to 5 { a[i + 2] = a[i] + a[i + 3] + a[i + 4] + a[i + 1] + a[i + 5]; }": {1, 2, 3}, "for i = 0 to 5 { a[i] = b[i + 1]; b[i] = a[i + 1] + d[0]; }": {1},
	} {
		wantDists(t, loopParsed(t, text), want...)
	}
	for _, text := range []string{"for i = 0 to 5 { a[3] = i; }", "for i = 0 to 5 { a[i] = a[i + 1]; d[0] = i; }", "for i = 0 to 5 { d[0] = i; a[i] = a[i + 1]; }", "for i = 0 to 5 { a[i] = a[i + 1] + a[0]; }", "for i = 0 to 5 { a[a[i]] = 1; }"} {
		wantNoDists(t, loopParsed(t, text))
	}
	wide := loopParsed(t, "for i = 0 - 10000 to 10000 { a[i] = a[i + 20000] + a[i + 20001]; }")
	wantDeps(t, wide, far(0, 2, 20000))
}

func TestNeeds(t *testing.T) {
	for text, needs := range map[string]func(i, k int) bool{
		// The same round, and one that puts what another one asks or puts.
		"for i = 0 to 5 { a[i] = 1; }":                         func(i, k int) bool { return i == k },
		"for i = 0 to 5 { a[i] = b[i] + 1; }":                  func(i, k int) bool { return i == k },
		"for i = 0 to 5 { a[i + 2] = a[i]; }":                  func(i, k int) bool { return i == k || i-k == 2 || k-i == 2 },
		"for i = 0 to 5 { x = a[i]; a[i + 2] = b[i + 1]; }":    func(i, k int) bool { return i == k || i-k == 2 || k-i == 2 },
		"for i = 0 to 5 { a[i] = 1; a[i + 3] = 1; }":           func(i, k int) bool { return i == k || i-k == 3 || k-i == 3 },
		"for i = 0 to 5 { a[3] = i; }":                         func(i, k int) bool { return true },
		"for i = 0 to 5 { a[i] = a[3]; }":                      func(i, k int) bool { return i == k || i == 3 || k == 3 },
		"for i = 0 to 5 { a[2 * i] = a[i]; }":                  func(i, k int) bool { return i == k || i == 2*k || k == 2*i },
		"for i = 0 to 5 { a[5 - i] = 1; x = a[i]; }":           func(i, k int) bool { return i == k || i+k == 5 },
		"for i = 0 to 5 { a[i] = 1; b[5 - i] = 1; x = a[5]; }": func(i, k int) bool { return i == k || i == 5 || k == 5 },
		// Both only ask, or of two arrays.
		"for i = 0 to 5 { x = a[i] + a[i + 1] + a[3]; }": func(i, k int) bool { return false },
		"for i = 0 to 5 { x = i; }":                      func(i, k int) bool { return false },
		"for i = 0 to 5 { x = a[3]; b[i] = x; }":         func(i, k int) bool { return i == k },
		// With loops within.
		"for i = 0 to 5 { for j = 0 to 2 { a[2 * i + j] = 1; } }":                        func(i, k int) bool { return i-k <= 1 && k-i <= 1 },
		"for i = 0 to 3 { for j = 0 to 2 { a[3 * i + j] = a[3 * i + 2 - j]; } }":         func(i, k int) bool { return i == k },
		"for i = 0 to 5 { a[i] = 1; for j = 3 to 4 { x = a[j]; } }":                      func(i, k int) bool { return i == k || i == 3 || i == 4 || k == 3 || k == 4 },
		"for i = 0 to 5 { for j = 0 to 1 { for k = 0 to 1 { a[i + 5 * j - k] = 1; } } }": func(i, k int) bool { return i-k <= 1 && k-i <= 1 || i-k >= 4 || k-i >= 4 },
	} {
		s := loopParsed(t, text)
		box, _ := impl.BoxOf(s)
		for i := box[0].Lo; i <= box[0].Hi; i++ {
			for k := i; k <= box[0].Hi; k++ {
				wantNeeds(t, needs(i, k), s, i, k)
			}
		}
	}
}

// A round that is none of the loop's touches what it would touch, as MeetAt has it.
func TestNeedsOfOtherRounds(t *testing.T) {
	s := loopParsed(t, "for i = 0 to 5 { a[i + 2] = a[i]; }")
	for _, i := range []int{-1, 6, -1000, 1000, 1 << 40} {
		wantNeeds(t, true, s, i, i)
		wantNeeds(t, true, s, i, i+2)
		wantNeeds(t, false, s, i, i+1)
	}
	wantNeeds(t, true, loopParsed(t, "for i = 0 to 5 { a[3] = i; }"), -1, math.MaxInt)
	wantNeeds(t, false, loopParsed(t, "for i = 0 to 5 { x = a[3]; }"), -1, 6)
	wantNeeds(t, true, loopParsed(t, "for i = 0 to 5 { a[i] = a[9]; }"), 2, 9)
	for _, i := range []int{math.MinInt, math.MaxInt} {
		wantNeeds(t, true, s, i, i)
		wantNeeds(t, false, s, i, 0)
	}
}

// Just 600 ways are looked at, and no more.
func TestNeedsOfManyWays(t *testing.T) {
	for text, want := range map[string]bool{
		"for i = 0 to 599 { a[i] = 1; }": true, "for i = 0 to 600 { a[i] = 1; }": false, "for i = 0 to 19 { a[i] = 1; for j = 1 to 30 { x = j; } }": true, "for i = 0 to 20 { a[i] = 1; for j = 1 to 30 { x = j; } }": false, "for i = 0 to 19 { for j = 1 to 30 { a[30 * i + j] = 1; } }": true, "for i = 0 to 19 { for j = 0 to 30 { a[31 * i + j] = 1; } }": false,
	} {
		s := loopParsed(t, text)
		wantNeeds(t, want, s, 3, 3)
		wantNeeds(t, false, s, 3, 4)
		wantDeps(t, s)
	}
	wantNeeds(t, false, loopParsed(t, "for i = 0 to 600 { a[3] = 1; }"), 3, 4)
}

// depsTold and needsTold are a second way, by the answers of the chapters ahead.
func depsTold(s impl.Stmt, box []impl.Rng, accs []impl.Acc) []impl.Dep {
	var deps []impl.Dep
	for b, g := range accs {
		for a, f := range accs[:b+1] {
			if f.Name != g.Name || !f.Puts && !g.Puts || !impl.MayMeet(f.F, g.F, s.S, box) {
				continue
			}
			d, ok := impl.DistOf(f.F, g.F, s.S)
			deps = append(deps, impl.Dep{A: a, B: b, Far: ok && d != 0, D: max(d, -d)})
		}
	}
	slices.SortFunc(deps, func(d, e impl.Dep) int { return 1000*(d.A-e.A) + d.B - e.B })
	return deps
}

func needsTold(s impl.Stmt, box []impl.Rng, accs []impl.Acc, i, k int) bool {
	for _, f := range accs {
		for _, g := range accs {
			if f.Name == g.Name && (f.Puts || g.Puts) && impl.MeetAt(f.F, g.F, s.S, i, k, box) {
				return true
			}
		}
	}
	return false
}

// touchNeeds does both rounds, and looks whether a place is touched by both that one of them puts.
func touchNeeds(s impl.Stmt, i, k int) bool {
	var rounds [2]map[touched]int
	for n, round := range []int{i, k} {
		rounds[n] = map[touched]int{}
		for _, inner := range s.Body {
			touches(inner, []impl.Bind{{Name: s.S, N: round}}, 0, rounds[n])
		}
	}
	for first := range rounds[0] {
		for second := range rounds[1] {
			if first.array == second.array && first.place == second.place && (first.puts || second.puts) {
				return true
			}
		}
	}
	return false
}

// shifted makes a loop of places that are mostly known to be so and so many rounds apart.
func (m *maker) shifted() string {
	mostly := []string{"i", "2 * i", "5 - i"}[m.pick(3)]
	place := func() string {
		array := []string{"b", "c"}[m.pick(2)]
		switch m.pick(30) {
		case 0:
			return array + "[3]"
		case 1:
			return array + "[i]"
		}
		return fmt.Sprintf("%s[%s + %d]", array, mostly, m.pick(7))
	}
	text := fmt.Sprintf("for i = 0 to %d { ", 2+m.pick(5))
	for range 1 + m.pick(3) {
		text += place() + " = " + place() + []string{"", " + " + place()}[m.pick(2)] + "; "
	}
	return text + "}"
}

// P13, of many loops at random: two rounds that touch a place which one of them puts need each other, and where they are not the same there is a Dep of it, by as many rounds if it is Far.
func TestRoundsThatTouchNeedEachOther(t *testing.T) {
	m := maker{seed: 130}
	counts := map[string]int{}
	for n := range 4000 {
		loop := m.touchingLoop(nil, 1+m.pick(3))
		if n%2 == 0 {
			loop = m.shifted()
		}
		p, ok := impl.Parse("array a 4; array b 9; array c 16; " + loop)
		if !ok {
			continue
		}
		s := p.Body[0]
		accs, ok := impl.AccsOf(s)
		if !ok {
			counts["not told"]++
			wantNothingTold(t, s)
			continue
		}
		box, _ := impl.BoxOf(s)
		deps := depsTold(s, box, accs)
		wantDeps(t, s, deps...)
		if impl.Rounds(box) > 600 {
			t.Fatal("so many rounds are not to be made here")
		}
		for i := box[0].Lo; i <= box[0].Hi; i++ {
			for k := i; k <= box[0].Hi; k++ {
				want := touchNeeds(s, i, k)
				wantNeeds(t, want, s, i, k)
				counts[fmt.Sprint("needs ", want)]++
				if want && i != k && !slices.ContainsFunc(deps, func(d impl.Dep) bool { return !d.Far || d.D == k-i }) {
					t.Errorf("%d and %d need each other in %s, and there is no Dep of it", i, k, impl.ProgText(p))
				}
			}
		}
		for i := box[0].Lo - 2; i <= box[0].Hi+2; i++ {
			wantNeeds(t, needsTold(s, box, accs, i, box[0].Lo), s, i, box[0].Lo)
		}
		if l, ok := impl.Dists(s); ok {
			counts[fmt.Sprint("dists ", min(len(l), 2))]++
		}
	}
	for what, least := range map[string]int{"not told": 150, "needs true": 1000, "needs false": 1000, "dists 0": 500, "dists 1": 200, "dists 2": 100} {
		if counts[what] < least {
			t.Errorf("%v are too few to tell", counts)
		}
	}
}

func TestDepsAreNew(t *testing.T) {
	s := loopParsed(t, "for i = 2 to 7 { a[i] = a[i - 2] + b[i]; b[i] = a[i + 1]; }")
	body := append(slices.Clone(s.Body), loopIn("behind", putStmt("a", numExp(1), numExp(1))))
	s.Body = body[:2]
	text := func() string { return stmtText(impl.Stmt{Body: body}) + stmtText(s) }
	kept := text()
	first, _ := impl.DepsOf(s)
	second, _ := impl.DepsOf(s)
	wantOwnMemory(t, first, second)
	dists, _ := impl.Dists(s)
	again, _ := impl.Dists(s)
	wantOwnMemory(t, dists, again)
	for i := range first {
		first[i], dists[i] = impl.Dep{}, 0
	}
	wantDeps(t, s, far(0, 2, 2), far(2, 3, 1))
	wantNeeds(t, true, s, 2, 4)
	if !slices.Equal(second, []impl.Dep{far(0, 2, 2), far(2, 3, 1)}) || !slices.Equal(again, []int{1, 2}) {
		t.Error("two answers share memory")
	}
	if text() != kept {
		t.Error("an argument was written into")
	}
}
