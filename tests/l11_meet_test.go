package tests

import (
	"math"
	"slices"
	"testing"

	"loop.example/g00476/impl"
)

// wantEither holds both answers of what is the same either way round.
func wantEither(t *testing.T, what string, want bool, f, g impl.Aff, meet func(f, g impl.Aff) bool) {
	t.Helper()
	if meet(f, g) != want {
		t.Errorf("%s of %.200s and %.200s is %v", what, affText(f), affText(g), !want)
	}
	if meet(g, f) != want {
		t.Errorf("%s of %.200s and %.200s is %v", what, affText(g), affText(f), !want)
	}
}

func wantGcdMeet(t *testing.T, want bool, f, g impl.Aff) {
	t.Helper()
	wantEither(t, "GcdMeet", want, f, g, impl.GcdMeet)
}

func wantRngMeet(t *testing.T, want bool, f, g impl.Aff, box []impl.Rng) {
	t.Helper()
	wantEither(t, "RngMeet in "+boxText(box), want, f, g, func(f, g impl.Aff) bool { return impl.RngMeet(f, g, box) })
}

func wantMayMeet(t *testing.T, want bool, f, g impl.Aff, name string, box []impl.Rng) {
	t.Helper()
	wantEither(t, "MayMeet of "+name+" in "+boxText(box), want, f, g, func(f, g impl.Aff) bool { return impl.MayMeet(f, g, name, box) })
}

func wantMeetAt(t *testing.T, want bool, f, g impl.Aff, name string, i, k int, box []impl.Rng) {
	t.Helper()
	if impl.MeetAt(f, g, name, i, k, box) != want {
		t.Errorf("MeetAt of %s and %s, %q %d and %d, in %s is %v", affText(f), affText(g), name, i, k, boxText(box), !want)
	}
	if impl.MeetAt(g, f, name, k, i, box) != want {
		t.Errorf("MeetAt of %s and %s, %q %d and %d, in %s is %v", affText(g), affText(f), name, k, i, boxText(box), !want)
	}
}

func wantDist(t *testing.T, f, g impl.Aff, name string, want int) {
	t.Helper()
	if d, ok := impl.DistOf(f, g, name); d != want || !ok {
		t.Errorf("DistOf of %s and %s, %q, is %d, %v, not %d", affText(f), affText(g), name, d, ok, want)
	}
	if d, ok := impl.DistOf(g, f, name); d != -want || !ok {
		t.Errorf("DistOf of %s and %s, %q, is %d, %v, not %d", affText(g), affText(f), name, d, ok, -want)
	}
}

func wantNoDist(t *testing.T, f, g impl.Aff, name string) {
	t.Helper()
	for _, pair := range [][2]impl.Aff{{f, g}, {g, f}} {
		if d, ok := impl.DistOf(pair[0], pair[1], name); d != 0 || ok {
			t.Errorf("DistOf of %s and %s, %q, is %d, %v", affText(pair[0]), affText(pair[1]), name, d, ok)
		}
	}
}

// inI is n times i and c; what is 0 times i has no Term.
func inI(n, c int) impl.Aff { return byName{"i": n, "": c}.settled().aff() }

// wrongAffs are none of them AffOk.
func wrongAffs() []impl.Aff {
	i, j := termOf("i", 2), termOf("j", 2)
	return []impl.Aff{affOf(100001), affOf(-100001, i), affOf(0, termOf("i", 0)), affOf(0, i, i), affOf(0, j, i), affOf(0, termOf("i", 100001)), affOf(0, termOf("i", -100001)), affOf(0, termOf("", 2)), affOf(0, termOf("for", 2), i), affOf(math.MinInt), affOf(0, termOf("i", math.MinInt))}
}

func TestGcdMeet(t *testing.T) {
	i, j, k := termOf("i", 4), termOf("j", 6), termOf("k", -10)
	for _, c := range []struct {
		f, g impl.Aff
		by   int
	}{
		{affOf(0, i), affOf(0, i), 4}, {affOf(0, i), affOf(0, j), 2}, {affOf(0, i), affOf(0), 4}, {affOf(0, j), affOf(0), 6}, {affOf(0, i, j), affOf(0), 2}, {affOf(0, k), affOf(0), 10}, {affOf(0, k), affOf(0, k), 10}, {affOf(0, i, k), affOf(0, j), 2},
		{affOf(0, termOf("i", 12)), affOf(0, termOf("i", 18)), 6}, {affOf(0, termOf("i", -12)), affOf(0, termOf("i", 18), termOf("j", -30)), 6}, {affOf(0, termOf("i", 100000)), affOf(0, termOf("i", -100000)), 100000}, {affOf(0, termOf("i", 6), termOf("j", 10)), affOf(0, termOf("k", 15)), 1}, {affOf(0, termOf("i", 1)), affOf(0, i), 1}, {affOf(0, termOf("i", -7)), affOf(0), 7},
	} {
		for _, from := range []int{0, 1, -5, 7} {
			f, g := copyAff(c.f), copyAff(c.g)
			f.C = from
			for apart := -40; apart <= 40; apart++ {
				g.C = from + apart
				wantGcdMeet(t, apart%c.by == 0, f, g)
			}
			for _, times := range []int{1, -1, 3} {
				g.C = from + times*c.by
				if impl.AffOk(g) {
					wantGcdMeet(t, true, f, g)
					g.C++
					wantGcdMeet(t, impl.AffOk(g) && c.by == 1, f, g)
				}
			}
		}
	}
	wantGcdMeet(t, true, affOf(-100000, termOf("i", 100000)), affOf(100000))
	wantGcdMeet(t, false, affOf(-99999, termOf("i", 100000)), affOf(100000))
}

// Without any Terms only what is the same meets.
func TestGcdMeetOfNumbersAlone(t *testing.T) {
	numbers := append([]int{0, 3, 5, -3}, coefEdges...)
	for _, a := range numbers {
		for _, b := range numbers {
			wantGcdMeet(t, a == b, affOf(a), affOf(b))
			wantGcdMeet(t, a == b, affOf(a, []impl.Term{}...), affOf(b))
		}
	}
}

func TestGcdMeetOfWrongOnes(t *testing.T) {
	for _, wrong := range wrongAffs() {
		wantAffOk(t, false, wrong)
		for _, other := range append(wrongAffs(), wrong, impl.Aff{}, affOf(wrong.C), inI(1, 0), inI(2, 2), inI(1, wrong.C)) {
			wantGcdMeet(t, false, wrong, other)
		}
	}
}

func TestRngMeet(t *testing.T) {
	box := boxOf(rngOf("i", 0, 5), rngOf("j", -2, 0), rngOf("k", 3, 3))
	j := func(n, c int) impl.Aff { return affOf(c, termOf("j", n)) }
	for _, c := range []struct {
		f, g impl.Aff
		want bool
	}{
		// The same, one number in common, one apart.
		{inI(1, 0), inI(1, 0), true}, {inI(1, 0), inI(1, 5), true}, {inI(1, 0), inI(1, 6), false}, {inI(1, 0), inI(1, -5), true}, {inI(1, 0), inI(1, -6), false},
		{inI(-1, 0), inI(1, 0), true}, {inI(-1, -1), inI(1, 0), false}, {inI(-1, 10), inI(1, 5), true}, {inI(-1, 10), inI(1, 0), true}, {inI(-1, 11), inI(1, 0), false}, {inI(-1, 1), inI(1, 2), false},
		// Within each other; what is a number alone.
		{inI(4, 0), inI(1, 7), true}, {inI(4, -10), affOf(0), true}, {inI(1, 0), affOf(3), true}, {inI(1, 0), affOf(5), true}, {inI(1, 0), affOf(0), true}, {inI(1, 0), affOf(6), false}, {inI(1, 0), affOf(-1), false}, {affOf(3), affOf(3), true}, {affOf(3), affOf(4), false}, {affOf(0), affOf(0), true},
		// What is never the same may still be in one range.
		{inI(2, 0), inI(2, 1), true}, {inI(5, 0), affOf(7), true},
		// Other names, and several.
		{inI(1, 0), j(1, 0), true}, {inI(1, 1), j(1, 0), false}, {inI(1, 1), j(-1, 0), true}, {inI(1, 3), j(-1, 0), false}, {inI(1, 3), j(-1, 1), true}, {affOf(0, termOf("k", 2)), inI(1, 1), true}, {affOf(0, termOf("k", 2)), inI(1, 0), false}, {affOf(0, termOf("i", 1), termOf("j", 1)), affOf(-3), false}, {affOf(0, termOf("i", 1), termOf("j", 1)), affOf(-2), true}, {affOf(0, termOf("i", 1), termOf("j", -1), termOf("k", 1)), affOf(10), true}, {affOf(0, termOf("i", 1), termOf("j", -1), termOf("k", 1)), affOf(11), false},
	} {
		wantRngMeet(t, c.want, c.f, c.g, box)
	}
	wantRngMeet(t, true, affOf(3), affOf(3), nil)
	wantRngMeet(t, false, affOf(3), affOf(4), nil)
}

func TestRngMeetOfWrongOnes(t *testing.T) {
	box := boxOf(rngOf("i", 0, 5), rngOf("j", -2, 0))
	wantBoth := func(f, g impl.Aff, box []impl.Rng) {
		wantRngMeet(t, false, f, g, box)
		wantMayMeet(t, false, f, g, "i", box)
		wantMayMeet(t, false, f, g, "j", box)
		wantMayMeet(t, false, f, g, "k", box)
	}
	for _, wrong := range wrongAffs() {
		wantBoth(wrong, wrong, box)
		wantBoth(wrong, inI(1, 0), box)
		wantBoth(wrong, impl.Aff{}, box)
		wantBoth(wrong, impl.Aff{}, nil)
	}
	// A name that the box has not.
	for _, l := range [][]impl.Rng{nil, {}, box[1:], box[:0:2], boxOf(rngOf("ii", 0, 5))} {
		wantBoth(inI(1, 0), inI(1, 0), l)
		wantBoth(inI(1, 0), affOf(0), l)
		wantBoth(inI(1, 0), affOf(0, termOf("j", 1)), l)
	}
	wantBoth(affOf(0, termOf("i", 1), termOf("k", 1)), affOf(0, termOf("i", 1), termOf("k", 1)), box)
	// No box, or one of no ways.
	for _, l := range [][]impl.Rng{append(slices.Clone(box), box[0]), append(slices.Clone(box), rngOf("for", 0, 1)), append(slices.Clone(box), rngOf("k", 0, 10001)), replaced(box, 0, rngOf("i", -10001, 0)), append(eightRngs(1), box...), replaced(box, 0, rngOf("i", 1, 0)), replaced(box, 1, rngOf("j", 1, 0)), append(slices.Clone(box), rngOf("k", 10000, -10000))} {
		for _, a := range []impl.Aff{{}, affOf(3), inI(1, 0), inI(2, 1)} {
			wantBoth(a, a, l)
			wantBoth(a, affOf(0), l)
		}
	}
}

func TestMayMeetOfOneName(t *testing.T) {
	box := boxOf(rngOf("i", 0, 5))
	for _, c := range []struct {
		f, g impl.Aff
		want bool
	}{
		// In the same round alone.
		{inI(1, 0), inI(1, 0), false}, {inI(-1, 5), inI(-1, 5), false}, {inI(3, 2), inI(3, 2), false}, {inI(100000, 0), inI(100000, 0), false},
		// In the next round, in the last one, one past it.
		{inI(1, 0), inI(1, 1), true}, {inI(1, 0), inI(1, 5), true}, {inI(1, 0), inI(1, 6), false}, {inI(2, 0), inI(2, 2), true}, {inI(2, 0), inI(2, 10), true}, {inI(2, 0), inI(2, 12), false}, {inI(-3, 1), inI(-3, 4), true}, {inI(-3, 1), inI(-3, 16), true}, {inI(-3, 1), inI(-3, 19), false},
		// Between rounds.
		{inI(2, 0), inI(2, 1), false}, {inI(2, 0), inI(2, 9), false}, {inI(-3, 1), inI(-3, 3), false}, {inI(-3, 1), inI(-3, 5), false},
		// Numbers that are not the same, and one of 0.
		{inI(1, 0), inI(2, 0), true}, {inI(1, 0), inI(-1, 0), true}, {inI(1, 0), inI(-1, 5), true}, {inI(1, 0), inI(-1, -1), false}, {inI(2, 0), inI(4, 2), true}, {inI(2, 0), inI(4, 1), false}, {inI(1, 0), affOf(0), true}, {inI(1, 0), affOf(5), true}, {inI(1, 0), affOf(6), false}, {inI(2, 0), affOf(3), false},
		// 0 in both.
		{affOf(3), affOf(3), true}, {affOf(3), affOf(4), false}, {affOf(0), affOf(0), true},
	} {
		wantMayMeet(t, c.want, c.f, c.g, "i", box)
		// Names of the box beside it that are in neither change nothing.
		wantMayMeet(t, c.want, c.f, c.g, "i", append(boxOf(rngOf("a", -3, 9)), append(box, rngOf("z", 7, 7))...))
		// Where the box begins is all the same, if both have the number.
		if impl.CoefOf(c.f, "i") == impl.CoefOf(c.g, "i") {
			wantMayMeet(t, c.want, c.f, c.g, "i", boxOf(rngOf("i", -7, -2)))
			wantMayMeet(t, c.want, c.f, c.g, "i", boxOf(rngOf("i", 9995, 10000)))
		}
	}
	// A Lo that is its Hi has no other round.
	one := boxOf(rngOf("i", 4, 4))
	for c := -3; c <= 3; c++ {
		wantMayMeet(t, false, inI(1, 0), inI(1, c), "i", one)
		wantMayMeet(t, c == 0, affOf(0), affOf(c), "i", one)
		wantMayMeet(t, c == 0, inI(1, 0), inI(2, c-4), "i", one)
	}
	// As far as a box goes.
	wide := boxOf(rngOf("i", -10000, 10000))
	for _, n := range []int{1, -1, 5, -5} {
		for d, want := range map[int]bool{1: true, 9999: true, 20000: true, 20001: false, 0: false} {
			if c := n*d - 50000; impl.AffOk(affOf(c)) {
				wantMayMeet(t, want, inI(n, -50000), inI(n, c), "i", wide)
			}
		}
	}
	wantMayMeet(t, false, inI(100000, -100000), inI(100000, 99999), "i", wide)
	wantMayMeet(t, true, inI(100000, -100000), inI(100000, 100000), "i", wide)
	wantMayMeet(t, true, inI(100000, -100000), inI(100000, 0), "i", wide)
}

func TestMayMeetOfOtherNames(t *testing.T) {
	box := boxOf(rngOf("i", 0, 5), rngOf("j", 0, 2))
	ij := func(i, j, c int) impl.Aff { return byName{"i": i, "j": j, "": c}.settled().aff() }
	for _, c := range []struct {
		f, g   impl.Aff
		ofI    bool
		ofJ    bool
		within int
	}{
		// 3 times i is farther than j goes, 2 times i is not.
		{ij(3, 1, 0), ij(3, 1, 0), false, true, 0}, {ij(2, 1, 0), ij(2, 1, 0), true, true, 0}, {ij(-3, 1, 0), ij(-3, 1, 0), false, true, 0}, {ij(3, -1, 0), ij(3, -1, 0), false, true, 0}, {ij(-2, -1, 0), ij(-2, -1, 0), true, true, 0},
		{ij(3, 1, 0), ij(3, 1, 1), true, true, 0}, {ij(3, 1, 1), ij(3, 1, 0), true, true, 0}, {ij(1, 3, 0), ij(1, 3, 0), true, true, 0}, {ij(1, 6, 0), ij(1, 6, 0), true, false, 0}, {ij(1, 6, 0), ij(1, 6, 1), true, true, 0},
		// Beside each other.
		{ij(3, 1, 0), ij(3, 0, 0), false, true, 0}, {ij(3, 1, 0), ij(3, 0, 1), false, true, 0}, {ij(3, 1, 0), ij(3, 0, 3), true, true, 0}, {ij(3, 1, 0), ij(3, 0, 17), true, true, 0}, {ij(3, 1, 0), ij(3, 0, 18), false, false, 0}, {ij(3, 1, 0), ij(3, 0, -16), false, false, 0}, {ij(3, 1, 0), ij(3, 0, -15), true, true, 0},
		// j alone: any round of i.
		{ij(0, 1, 0), ij(0, 1, 0), true, false, 0}, {ij(0, 1, 0), ij(0, 1, 2), true, true, 0}, {ij(0, 1, 0), ij(0, 1, 3), false, false, 0}, {ij(0, 1, 0), ij(0, -1, 0), true, true, 0},
		// Past each other, though the rests would do.
		{ij(4, 2, 0), ij(4, 2, 1), false, false, 0}, {ij(4, 2, 0), ij(4, 2, 2), true, true, 0},
	} {
		wantMayMeet(t, c.ofI, c.f, c.g, "i", box)
		wantMayMeet(t, c.ofJ, c.f, c.g, "j", box)
		slices.Reverse(box)
	}
	// A name that the box has not is in neither.
	for c := range 4 {
		wantMayMeet(t, c <= 2, ij(0, 1, 0), ij(0, 1, c), "k", box)
		wantMayMeet(t, c <= 2, ij(0, 1, 0), ij(0, 1, c), "", box)
		wantMayMeet(t, true, inI(1, 0), inI(1, c), "k", box)
	}
}

// mayMeetTold is a second way, which tries every d.
func mayMeetTold(f, g impl.Aff, name string, box []impl.Rng) bool {
	ofF, ofG := byNameOf(f), byNameOf(g)
	n := ofF[name]
	if !impl.GcdMeet(f, g) || !impl.RngMeet(f, g, box) || n == 0 || n != ofG[name] {
		return impl.GcdMeet(f, g) && impl.RngMeet(f, g, box)
	}
	delete(ofF, name)
	delete(ofG, name)
	leastF, _ := impl.Least(ofF.aff(), box)
	mostF, _ := impl.Most(ofF.aff(), box)
	leastG, _ := impl.Least(ofG.aff(), box)
	mostG, _ := impl.Most(ofG.aff(), box)
	for _, r := range box {
		for d := 1; r.Name == name && d <= r.Hi-r.Lo; d++ {
			for _, apart := range []int{n * d, -n * d} {
				if leastG-mostF <= apart && apart <= mostG-leastF {
					return true
				}
			}
		}
	}
	return false
}

// places are all places where a may be, name being n, by every choice of all other names of the box.
func places(a impl.Aff, name string, n int, box []impl.Rng) map[int]int {
	others := slices.DeleteFunc(slices.Clone(box), func(r impl.Rng) bool { return r.Name == name })
	all := map[int]int{}
	for _, way := range ways(others) {
		all[impl.AffAt(a, append(way, impl.Bind{Name: name, N: n}))]++
	}
	return all
}

func meetTold(f, g impl.Aff, name string, i, k int, box []impl.Rng) bool {
	ofG := places(g, name, k, box)
	for place := range places(f, name, i, box) {
		if ofG[place] > 0 {
			return true
		}
	}
	return false
}

// straightIn makes a straight sum of the names of a box, and of one more here and there.
func (m *maker) straightIn(box []impl.Rng) impl.Aff {
	told := byName{"": m.pick(13) - 6}
	for _, r := range box {
		if m.pick(3) > 0 {
			told[r.Name] = []int{1, -1, 2, -2, 3, 6, 1, 2}[m.pick(8)]
		}
	}
	if m.pick(40) == 0 {
		told["other"] = 1
	}
	return told.settled().aff()
}

// P11: where MayMeet says no, no two rounds that are not the same meet; and each answer is what a second way makes of the document's words.
func TestNeverMeet(t *testing.T) {
	m := maker{seed: 110}
	counts := map[string]int{}
	for n := range 4000 {
		var box []impl.Rng
		for _, name := range []string{"i", "j", "k"}[:1+m.pick(3)] {
			lo := m.pick(6) - 3
			box = append(box, rngOf(name, lo, lo+m.pick(6)-m.pick(30)/29))
		}
		if n%2 == 0 {
			slices.Reverse(box)
		}
		f := m.straightIn(box)
		g := f
		if m.pick(3) > 0 {
			g = m.straightIn(box)
		} else {
			g.C += m.pick(9) - 4
		}
		may := mayMeetTold(f, g, "i", box)
		wantMayMeet(t, may, f, g, "i", box)
		r := box[slices.IndexFunc(box, func(r impl.Rng) bool { return r.Name == "i" })]
		met := false
		for i := r.Lo - 1; i <= r.Hi+1; i++ {
			for k := r.Lo - 1; k <= r.Hi+1; k++ {
				want := impl.Rounds(box) > 0 && meetTold(f, g, "i", i, k, box)
				wantMeetAt(t, want, f, g, "i", i, k, box)
				if want && i != k && min(i, k) >= r.Lo && max(i, k) <= r.Hi {
					met = true
				}
			}
		}
		counts[map[bool]string{true: "may", false: "never"}[may]]++
		if met {
			counts["met"]++
			if !may && impl.AffOk(f) && !slices.ContainsFunc(slices.Concat(f.T, g.T), func(term impl.Term) bool { return term.Name == "other" }) {
				t.Errorf("%s and %s meet in %s", affText(f), affText(g), boxText(box))
			}
		}
	}
	for what, least := range map[string]int{"may": 800, "never": 800, "met": 700} {
		if counts[what] < least {
			t.Errorf("%v are too few to tell", counts)
		}
	}
}

func TestDistOf(t *testing.T) {
	for _, c := range []struct{ n, c, d, want int }{
		// At the same place, later, and ahead.
		{1, 0, 0, 0}, {5, -3, -3, 0}, {1, 0, -2, 2}, {1, 0, 2, -2}, {2, 0, 6, -3}, {2, 6, 0, 3}, {1, 5, -5, 10}, {3, 1, -2, 1}, {100000, 100000, -100000, 2}, {100000, 0, -100000, 1}, {1, 100000, -100000, 200000},
		// Below 0.
		{-1, 0, 2, 2}, {-1, 0, -2, -2}, {-2, 6, 0, -3}, {-2, 0, 6, 3}, {-1, 7, 7, 0}, {-100000, 0, 100000, 1}, {-1, -100000, 100000, 200000},
	} {
		wantDist(t, inI(c.n, c.c), inI(c.n, c.d), "i", c.want)
	}
	for _, pair := range [][2]impl.Aff{
		// No whole number.
		{inI(2, 0), inI(2, 1)}, {inI(2, 0), inI(2, -1)}, {inI(-3, 0), inI(-3, 2)}, {inI(-3, 1), inI(-3, 5)}, {inI(100000, 0), inI(100000, 99999)}, {inI(5, 0), inI(5, 4)},
		// Numbers that are not the same, and 0.
		{inI(1, 0), inI(2, 0)}, {inI(1, 0), inI(-1, 0)}, {inI(2, 2), inI(-2, 2)}, {inI(1, 0), affOf(0)}, {inI(1, 3), affOf(3)}, {affOf(0), affOf(0)}, {affOf(3), affOf(1)}, {impl.Aff{}, impl.Aff{}},
		// Another name in one, in both.
		{affOf(0, termOf("i", 1), termOf("j", 1)), inI(1, 0)}, {affOf(0, termOf("a", 1), termOf("i", 1)), inI(1, 2)}, {affOf(0, termOf("i", 1), termOf("j", 1)), affOf(0, termOf("i", 1), termOf("j", 1))}, {affOf(0, termOf("j", 1)), affOf(0, termOf("j", 1))}, {affOf(0, termOf("ii", 1)), affOf(0, termOf("ii", 1))}, {affOf(0, termOf("a", 1), termOf("i", 1)), affOf(0, termOf("i", 1), termOf("j", 1))},
	} {
		wantNoDist(t, pair[0], pair[1], "i")
	}
	wantDist(t, affOf(1, termOf("j", 2)), affOf(5, termOf("j", 2)), "j", -2)
	wantNoDist(t, inI(1, 0), inI(1, 0), "")
	wantNoDist(t, affOf(0, termOf("i", 1), termOf("j", 1)), affOf(0, termOf("i", 1), termOf("j", 1)), "j")
	// What is no straight sum is answered as it stands, and at its ends too.
	wantDist(t, inI(200000, 400000), inI(200000, 0), "i", 2)
	for _, n := range []int{1, -1, 2, math.MaxInt, math.MinInt} {
		for _, c := range []int{0, 1, -1, math.MaxInt, math.MinInt} {
			impl.DistOf(affOf(c, termOf("i", n)), affOf(math.MinInt, termOf("i", n)), "i")
			impl.DistOf(affOf(0, termOf("i", n)), affOf(c, termOf("i", n)), "i")
		}
	}
}

// By as many rounds as DistOf tells, and by no other number, both are at the same place.
func TestDistOfIsWhereTheyMeet(t *testing.T) {
	m := maker{seed: 111}
	counts := map[bool]int{}
	for range 3000 {
		n := m.pick(11) - 5
		f, g := inI(n, m.pick(31)-15), inI(n, m.pick(31)-15)
		var later []int
		for d := -40; d <= 40; d++ {
			if n != 0 && impl.AffAt(f, []impl.Bind{{Name: "i", N: 3}}) == impl.AffAt(g, []impl.Bind{{Name: "i", N: 3 + d}}) {
				later = append(later, d)
			}
		}
		counts[len(later) == 1]++
		if len(later) == 1 {
			wantDist(t, f, g, "i", later[0])
			continue
		}
		wantNoDist(t, f, g, "i")
	}
	if counts[true] < 800 || counts[false] < 800 {
		t.Errorf("%v are too few to tell", counts)
	}
}

func TestMeetAt(t *testing.T) {
	box := boxOf(rngOf("i", 0, 5), rngOf("j", 0, 2))
	ij := func(i, j, c int) impl.Aff { return byName{"i": i, "j": j, "": c}.settled().aff() }
	for _, c := range []struct {
		f, g impl.Aff
		i, k int
		want bool
	}{
		// The same round, and another one.
		{inI(1, 0), inI(1, 0), 2, 2, true}, {inI(1, 0), inI(1, 0), 2, 3, false}, {inI(1, 0), inI(1, 1), 3, 2, true}, {inI(1, 0), inI(1, 1), 2, 3, false}, {inI(1, 0), inI(1, 1), 2, 2, false}, {affOf(3), affOf(3), 0, 5, true}, {affOf(3), affOf(4), 0, 0, false}, {inI(2, 0), inI(1, 3), 4, 5, true}, {inI(-1, 5), inI(1, 0), 1, 4, true}, {inI(-1, 5), inI(1, 0), 1, 1, false},
		// Names that are chosen for each by themselves.
		{ij(3, 1, 0), ij(3, 1, 0), 1, 1, true}, {ij(3, 1, 0), ij(3, 1, 0), 1, 2, false}, {ij(2, 1, 0), ij(2, 1, 0), 1, 2, true}, {ij(2, 1, 0), ij(2, 1, 0), 1, 3, false}, {ij(0, 1, 0), ij(0, 1, 2), 0, 0, true}, {ij(0, 1, 0), ij(0, 1, 3), 0, 0, false}, {ij(0, 1, 0), ij(0, -1, 4), 0, 5, true}, {ij(0, 1, 0), ij(0, -1, 5), 0, 5, false}, {ij(3, 1, 0), ij(1, 0, 0), 1, 4, true}, {ij(3, 1, 0), ij(1, 0, 0), 1, 6, false}, {ij(1, 2, 0), ij(1, 2, 0), 0, 4, true}, {ij(1, 2, 0), ij(1, 2, 0), 0, 3, false}, {ij(1, 2, 0), ij(1, 2, 0), 0, 5, false},
		// Rounds that are not in the box.
		{inI(1, 0), inI(1, 0), 6, 6, true}, {inI(1, 0), inI(1, 0), -1, -1, true}, {inI(1, 0), inI(1, 0), 6, 5, false}, {inI(1, 0), inI(1, 7), 9, 2, true}, {inI(1, 0), inI(-1, 0), 100, -100, true}, {affOf(3), inI(1, 0), 1 << 40, 3, true}, {affOf(3), inI(1, 0), math.MinInt, 4, false}, {ij(2, 1, 0), ij(2, 1, 0), 1000, 1001, true}, {ij(2, 1, 0), ij(2, 1, 0), 1000, 1002, false},
	} {
		wantMeetAt(t, c.want, c.f, c.g, "i", c.i, c.k, box)
		slices.Reverse(box)
	}
}

// A name that the box has not is still i and k; all others that it has not are nothing.
func TestMeetAtOfNamesThatTheBoxHasNot(t *testing.T) {
	box := boxOf(rngOf("i", 0, 5), rngOf("j", 0, 2))
	k := affOf(0, termOf("k", 1))
	wantMeetAt(t, true, k, k, "k", 7, 7, box)
	wantMeetAt(t, false, k, k, "k", 7, 8, box)
	wantMeetAt(t, true, k, affOf(7), "k", 7, 0, box)
	wantMeetAt(t, true, k, inI(1, 0), "k", 5, 9, box)
	wantMeetAt(t, false, k, inI(1, 0), "k", 6, 9, box)
	wantMeetAt(t, true, k, k, "k", 7, 7, nil)
	wantMeetAt(t, false, k, k, "k", 7, 8, nil)
	wantMeetAt(t, true, inI(1, 0), inI(1, 0), "i", 3, 3, []impl.Rng{})
	wantMeetAt(t, true, inI(1, 0), inI(1, 0), "k", 0, 9, box)
	wantMeetAt(t, true, affOf(3), affOf(3), "", 1, 2, nil)
	wantMeetAt(t, false, affOf(3), affOf(4), "", 1, 2, nil)
	wantMeetAt(t, true, affOf(3, termOf("k", 2)), affOf(3), "i", 1, 2, box)
	wantMeetAt(t, false, affOf(3, termOf("k", 2)), affOf(5), "i", 1, 2, box)
}

func TestMeetAtOfManyWays(t *testing.T) {
	one, j := inI(1, 0), affOf(0, termOf("j", 1))
	for _, c := range []struct {
		box  []impl.Rng
		want bool
	}{
		// Just 600 ways, and more; ways of the name and of names that are in neither count too.
		{boxOf(rngOf("i", 0, 599)), true}, {boxOf(rngOf("i", 0, 600)), false}, {boxOf(rngOf("i", 1, 20), rngOf("j", 1, 30)), true}, {boxOf(rngOf("i", 1, 20), rngOf("j", 0, 30)), false}, {boxOf(rngOf("i", 1, 21), rngOf("j", 1, 30)), false}, {boxOf(rngOf("j", 0, 599)), true}, {boxOf(rngOf("j", 0, 600)), false}, {boxOf(rngOf("z", 0, 599), rngOf("j", 0, 0)), true}, {boxOf(rngOf("z", 0, 600)), false}, {boxOf(rngOf("a", 1, 10), rngOf("i", 1, 6), rngOf("j", 1, 10)), true}, {boxOf(rngOf("a", 1, 601), rngOf("j", 1, 1)), false}, {eightRngs(0), true}, {eightRngs(1), false}, {eightRngs(10000), false},
		// No ways, and no box.
		{boxOf(rngOf("i", 1, 0)), false}, {boxOf(rngOf("i", 0, 5), rngOf("j", 1, 0)), false}, {boxOf(rngOf("z", 1, 0)), false}, {boxOf(rngOf("i", 0, 1), rngOf("i", 0, 1)), false}, {boxOf(rngOf("for", 0, 1)), false}, {boxOf(rngOf("i", 0, 10001)), false}, {append(eightRngs(0), rngOf("i", 0, 1)), false},
	} {
		wantMeetAt(t, c.want, one, one, "i", 2, 2, c.box)
		wantMeetAt(t, c.want, affOf(4), affOf(4), "i", 2, 3, c.box)
		wantMeetAt(t, c.want, j, j, "i", 2, 3, c.box)
		wantMeetAt(t, false, affOf(4), affOf(5), "i", 2, 2, c.box)
	}
	// All of 600 ways are looked at.
	long := boxOf(rngOf("i", 7, 7), rngOf("j", 0, 599))
	for _, n := range []int{0, 1, 300, 598, 599, 600, -1} {
		wantMeetAt(t, 0 <= n && n <= 599, j, affOf(n), "i", 7, 7, long)
		wantMeetAt(t, n <= 598, affOf(0, termOf("j", 2)), affOf(2*n, termOf("j", -2)), "i", 7, 7, boxOf(rngOf("j", -300, 299)))
	}
	wantMeetAt(t, false, affOf(0, termOf("j", 2)), affOf(1, termOf("j", 2)), "i", 7, 7, long)
	wantMeetAt(t, true, j, affOf(1198, termOf("j", -1)), "i", 7, 7, long)
	wantMeetAt(t, false, j, affOf(1199, termOf("j", -1)), "i", 7, 7, long)
}

func TestMeetAtOfWrongOnes(t *testing.T) {
	box := boxOf(rngOf("i", 0, 5), rngOf("j", 0, 2))
	for _, wrong := range wrongAffs() {
		wantMeetAt(t, false, wrong, wrong, "i", 0, 0, box)
		wantMeetAt(t, false, wrong, affOf(wrong.C), "i", 0, 0, nil)
		for _, other := range []impl.Aff{{}, inI(1, 0), affOf(0, termOf("j", 1))} {
			wantMeetAt(t, false, wrong, other, "i", 0, 0, box)
		}
	}
}

func TestMeetsAreNotWritten(t *testing.T) {
	rngs := boxOf(rngOf("k", 0, 4), rngOf("i", 1, 3), rngOf("j", -2, 0), rngOf("behind", 5, 1))
	first := []impl.Term{termOf("i", 2), termOf("j", 1), termOf("k", -3), termOf("z", 5)}
	second := []impl.Term{termOf("i", 2), termOf("k", 4), termOf("z", 5), termOf("zz", 6)}
	text := func() string { return boxText(rngs) + affText(affOf(0, first...)) + affText(affOf(0, second...)) }
	kept := text()
	for count := range 5 {
		for sums := range 4 {
			box, f, g := rngs[:count], impl.Aff{C: 3, T: first[:sums]}, impl.Aff{C: 3, T: second[:sums]}
			for _, name := range []string{"i", "j", "k", "q"} {
				impl.MayMeet(f, g, name, box)
				impl.MayMeet(f, f, name, box)
				impl.DistOf(f, g, name)
				impl.MeetAt(f, g, name, 1, 2, box)
			}
			impl.GcdMeet(f, g)
			impl.RngMeet(f, g, box)
			if text() != kept {
				t.Fatal("an argument was written into")
			}
		}
	}
}
