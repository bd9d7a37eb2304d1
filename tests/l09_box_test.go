package tests

import (
	"fmt"
	"math"
	"slices"
	"testing"

	"loop.example/g00476/impl"
)

func rngOf(name string, lo, hi int) impl.Rng { return impl.Rng{Name: name, Lo: lo, Hi: hi} }

func boxOf(l ...impl.Rng) []impl.Rng { return l }

func boxText(l []impl.Rng) string {
	text := "box"
	for _, r := range l {
		text += fmt.Sprintf(" %q %d..%d", r.Name, r.Lo, r.Hi)
	}
	return text
}

func wantBoxOk(t *testing.T, want bool, l []impl.Rng) {
	t.Helper()
	if impl.BoxOk(l) != want {
		t.Errorf("BoxOk of %.400s is %v", boxText(l), !want)
	}
}

func wantEnds(t *testing.T, a impl.Aff, l []impl.Rng, least, most int) {
	t.Helper()
	if got, ok := impl.Least(a, l); got != least || !ok {
		t.Errorf("Least of %.200s in %.300s is %d, %v, not %d", affText(a), boxText(l), got, ok, least)
	}
	if got, ok := impl.Most(a, l); got != most || !ok {
		t.Errorf("Most of %.200s in %.300s is %d, %v, not %d", affText(a), boxText(l), got, ok, most)
	}
}

func wantNoEnds(t *testing.T, a impl.Aff, l []impl.Rng) {
	t.Helper()
	for name, end := range map[string]func(impl.Aff, []impl.Rng) (int, bool){"Least": impl.Least, "Most": impl.Most} {
		if got, ok := end(a, l); got != 0 || ok {
			t.Errorf("%s of %.200s in %.300s is %d, %v", name, affText(a), boxText(l), got, ok)
		}
	}
	for _, size := range []int{0, 1, 16, math.MaxInt} {
		wantInArr(t, false, a, l, size)
	}
}

func wantInArr(t *testing.T, want bool, a impl.Aff, l []impl.Rng, size int) {
	t.Helper()
	if impl.InArr(a, l, size) != want {
		t.Errorf("InArr of %.200s in %.300s, %d, is %v", affText(a), boxText(l), size, !want)
	}
}

func wantRounds(t *testing.T, want int, l []impl.Rng) {
	t.Helper()
	if got := impl.Rounds(l); got != want {
		t.Errorf("Rounds of %.400s is %d, not %d", boxText(l), got, want)
	}
}

// ways are all choices of a number of each, each as Binds.
func ways(l []impl.Rng) [][]impl.Bind {
	all := [][]impl.Bind{nil}
	for _, r := range l {
		var longer [][]impl.Bind
		for _, binds := range all {
			for n := r.Lo; n <= r.Hi; n++ {
				longer = append(longer, append(slices.Clone(binds), impl.Bind{Name: r.Name, N: n}))
			}
		}
		all = longer
	}
	return all
}

var eightNames = []string{"a", "b", "c", "d", "e", "f", "g", "h"}

// eightRngs have each of eight names from -n to n.
func eightRngs(n int) []impl.Rng {
	var l []impl.Rng
	for _, name := range eightNames {
		l = append(l, rngOf(name, -n, n))
	}
	return l
}

func TestBoxOkCount(t *testing.T) {
	wantBoxOk(t, true, nil)
	wantBoxOk(t, true, []impl.Rng{})
	full := eightRngs(3)
	for count := range 9 {
		wantBoxOk(t, true, full[:count])
	}
	nine := append(slices.Clone(full), rngOf("i", 0, 1))
	wantBoxOk(t, false, nine)
	for at := range nine {
		wantBoxOk(t, true, slices.Delete(slices.Clone(nine), at, at+1))
	}
	wantBoxOk(t, false, append(nine, rngOf("j", 0, 1)))
	wantBoxOk(t, false, slices.Repeat(full, 100000))
	// They stand in any order.
	slices.Reverse(full)
	wantBoxOk(t, true, full)
}

// Two of one Name, wherever they stand, and whether they are alike or not.
func TestBoxOkNameTwice(t *testing.T) {
	full := eightRngs(3)
	for first := range full {
		for second := range full {
			if first == second {
				continue
			}
			for _, r := range []impl.Rng{full[first], rngOf(full[first].Name, 5, 6), rngOf(full[first].Name, 6, 5)} {
				wantBoxOk(t, false, replaced(full, second, r))
				wantBoxOk(t, false, []impl.Rng{full[first], r})
			}
		}
	}
	wantBoxOk(t, true, boxOf(rngOf("i", 0, 1), rngOf("ii", 0, 1), rngOf("j", 0, 1)))
	wantBoxOk(t, false, boxOf(rngOf("i", 0, 1), rngOf("ii", 0, 1), rngOf("i", 0, 1)))
}

func TestBoxOkNames(t *testing.T) {
	for i, names := range [][]string{rightNames, wrongNames} {
		for _, name := range names {
			wantBoxOk(t, i == 0, boxOf(rngOf(name, 0, 1)))
			wantBoxOk(t, i == 0, boxOf(rngOf("q", 0, 1), rngOf(name, 0, 1)))
			wantBoxOk(t, i == 0, boxOf(rngOf(name, 0, 1), rngOf("q", 0, 1), rngOf("r", 0, 1)))
		}
	}
	wantBoxOk(t, false, []impl.Rng{{}})
}

func TestBoxOkEnds(t *testing.T) {
	right := []int{-10000, -9999, -1, 0, 1, 9999, 10000}
	wrong := []int{-10001, 10001, 10002, -20000, 100000, 1 << 16, 1 << 32, -1 << 32, 1<<32 + 1, math.MaxInt, math.MinInt}
	for _, lo := range append(right, wrong...) {
		for _, hi := range append(right, wrong...) {
			// A Lo above its Hi is a box too.
			want := slices.Contains(right, lo) && slices.Contains(right, hi)
			wantBoxOk(t, want, boxOf(rngOf("i", lo, hi)))
			wantBoxOk(t, want, boxOf(rngOf("j", 0, 0), rngOf("i", lo, hi)))
			wantBoxOk(t, want, boxOf(rngOf("i", lo, hi), rngOf("j", 0, 0)))
		}
	}
}

func TestLeastAndMost(t *testing.T) {
	box := boxOf(rngOf("i", 1, 3), rngOf("j", -2, 0), rngOf("k", 5, 5))
	for _, c := range []struct {
		a           impl.Aff
		l           []impl.Rng
		least, most int
	}{
		// A number alone, in any box.
		{impl.Aff{}, nil, 0, 0}, {affOf(7), nil, 7, 7}, {affOf(-7), []impl.Rng{}, -7, -7}, {affOf(7), box, 7, 7}, {affOf(100000), box, 100000, 100000},
		// One Term, above and below 0.
		{affOf(0, termOf("i", 1)), box, 1, 3}, {affOf(0, termOf("i", -1)), box, -3, -1}, {affOf(0, termOf("i", 4)), box, 4, 12}, {affOf(10, termOf("i", -4)), box, -2, 6},
		{affOf(0, termOf("j", 1)), box, -2, 0}, {affOf(0, termOf("j", -1)), box, 0, 2}, {affOf(1, termOf("j", 5)), box, -9, 1}, {affOf(1, termOf("j", -5)), box, 1, 11},
		// A Lo that is its Hi.
		{affOf(0, termOf("k", 3)), box, 15, 15}, {affOf(1, termOf("k", -3)), box, -14, -14}, {affOf(0, termOf("i", 2)), boxOf(rngOf("i", 0, 0)), 0, 0},
		// Several.
		{affOf(1, termOf("i", 2), termOf("j", -1)), box, 3, 9}, {affOf(1, termOf("i", -2), termOf("j", 1)), box, -7, -1}, {affOf(0, termOf("i", 1), termOf("j", 1)), box, -1, 3}, {affOf(0, termOf("i", -1), termOf("j", -1)), box, -3, 1}, {affOf(100, termOf("i", 2), termOf("j", -3), termOf("k", 4)), box, 122, 132},
		// In any order of the box.
		{affOf(100, termOf("i", 2), termOf("j", -3), termOf("k", 4)), boxOf(rngOf("k", 5, 5), rngOf("q", 1, 9), rngOf("j", -2, 0), rngOf("i", 1, 3)), 122, 132},
		// The ends of numbers.
		{affOf(0, termOf("i", 100000)), boxOf(rngOf("i", -10000, 10000)), -1000000000, 1000000000}, {affOf(0, termOf("i", -100000)), boxOf(rngOf("i", -10000, 9999)), -999900000, 1000000000},
		{affOf(-100000, termOf("i", 100000), termOf("j", -100000)), boxOf(rngOf("i", 9999, 10000), rngOf("j", -10000, -9999)), 1999700000, 1999900000},
	} {
		wantEnds(t, c.a, c.l, c.least, c.most)
	}
	// Eight Terms together are more than a word.
	full := impl.Aff{C: 100000}
	for i, name := range eightNames {
		full.T = append(full.T, termOf(name, 100000-200000*(i%2)))
	}
	wantEnds(t, full, eightRngs(10000), 100000-8000000000, 100000+8000000000)
}

func TestNoLeastAndMost(t *testing.T) {
	i, j := termOf("i", 2), termOf("j", -1)
	box := boxOf(rngOf("i", 1, 3), rngOf("j", -2, 0))
	// A Name of a is none of l.
	for _, l := range [][]impl.Rng{nil, {}, box[:1], box[1:], boxOf(rngOf("k", 0, 0)), boxOf(rngOf("ij", 0, 1), rngOf("i", 1, 1), rngOf("k", 0, 0))} {
		wantNoEnds(t, affOf(0, i, j), l)
		wantNoEnds(t, affOf(5, i, j, termOf("k", 1)), l)
	}
	wantNoEnds(t, affOf(0, termOf("a", 1), i), box)
	wantNoEnds(t, affOf(0, i, termOf("ii", 1), j), box)
	wantNoEnds(t, affOf(0, i, termOf("z", 1)), box)
	// A Lo is above its Hi, of a Name that a has or has not.
	for _, a := range []impl.Aff{{}, affOf(3), affOf(3, i), affOf(3, j), affOf(3, i, j)} {
		wantNoEnds(t, a, boxOf(rngOf("i", 4, 3), rngOf("j", -2, 0)))
		wantNoEnds(t, a, boxOf(rngOf("i", 1, 3), rngOf("j", 0, -1)))
		wantNoEnds(t, a, append(boxOf(rngOf("k", 1, 0)), box...))
		wantNoEnds(t, a, append(slices.Clone(box), rngOf("k", 10000, -10000)))
	}
	// Not AffOk.
	for _, a := range []impl.Aff{affOf(0, termOf("i", 0)), affOf(0, i, i), affOf(0, j, i), affOf(100001), affOf(-100001, i), affOf(0, termOf("i", 100001)), affOf(0, i, termOf("j", -100001)), affOf(0, termOf("", 1)), affOf(math.MinInt), affOf(0, termOf("i", math.MaxInt))} {
		wantNoEnds(t, a, box)
	}
	// Not BoxOk.
	for _, l := range [][]impl.Rng{append(slices.Clone(box), box[0]), append(slices.Clone(box), rngOf("for", 0, 1)), append(slices.Clone(box), rngOf("k", 0, 10001)), append(slices.Clone(box), rngOf("k", -10001, 0)), replaced(box, 0, rngOf("i", 0, 10001)), append(slices.Clone(box), eightRngs(1)[:7]...), append(slices.Clone(box), impl.Rng{})} {
		wantBoxOk(t, false, l)
		for _, a := range []impl.Aff{{}, affOf(3, i), affOf(3, i, j)} {
			wantNoEnds(t, a, l)
		}
	}
	// What lies behind a list is not seen.
	wantNoEnds(t, affOf(0, i, j), box[:1:2])
}

// P9: at every choice of a box a straight sum is neither less than the least nor more than the most, and it is both somewhere.
func TestNeverLessNeverMore(t *testing.T) {
	m := maker{seed: 90}
	below := 0
	for n := range 1500 {
		names := slices.Clone(eightNames[:n%5])
		var l []impl.Rng
		told := byName{"": m.pick(41) - 20}
		for _, name := range names {
			lo := m.pick(9) - 5
			l = append(l, rngOf(name, lo, lo+m.pick(4)))
			if m.pick(4) > 0 {
				told[name] = m.pick(13) - 6
			}
		}
		if n%2 == 0 {
			slices.Reverse(l)
		}
		a := told.settled().aff()
		least, most := math.MaxInt, math.MinInt
		all := ways(l)
		for _, binds := range all {
			least, most = min(least, impl.AffAt(a, binds)), max(most, impl.AffAt(a, binds))
		}
		if least < most {
			below++
		}
		wantEnds(t, a, l, least, most)
		wantRounds(t, len(all), l)
		for size := -2; size < 30; size++ {
			wantInArr(t, least >= 0 && most <= size-1, a, l, size)
		}
	}
	if below < 700 {
		t.Errorf("%d are too few to tell", below)
	}
}

func TestInArr(t *testing.T) {
	box := boxOf(rngOf("i", 1, 3), rngOf("j", -2, 0))
	for _, c := range []struct {
		a    impl.Aff
		size int
		want bool
	}{
		// From 0 on, and from -1 on.
		{affOf(-1, termOf("i", 1)), 3, true}, {affOf(-2, termOf("i", 1)), 3, false}, {affOf(2, termOf("j", 1)), 3, true}, {affOf(1, termOf("j", 1)), 3, false}, {affOf(3, termOf("i", -1)), 3, true}, {affOf(2, termOf("i", -1)), 3, false},
		// Up to size less 1, and up to size.
		{affOf(0, termOf("i", 1)), 4, true}, {affOf(0, termOf("i", 1)), 3, false}, {affOf(0, termOf("i", 2)), 7, true}, {affOf(0, termOf("i", 2)), 6, false}, {affOf(1, termOf("i", 2), termOf("j", -1)), 10, true}, {affOf(1, termOf("i", 2), termOf("j", -1)), 9, false},
		// A number alone.
		{impl.Aff{}, 1, true}, {affOf(3), 4, true}, {affOf(3), 3, false}, {affOf(-1), 4, false}, {affOf(-1), math.MaxInt, false}, {affOf(100000), math.MaxInt, true}, {affOf(100000), 100000, false}, {affOf(100000), 100001, true},
		// A size of 0 and below.
		{impl.Aff{}, 0, false}, {affOf(-1), 0, false}, {impl.Aff{}, -1, false}, {impl.Aff{}, math.MinInt, false}, {affOf(5), math.MinInt, false}, {affOf(-5), math.MinInt, false}, {affOf(0, termOf("i", 1)), -4, false},
		// One of both is not there.
		{affOf(0, termOf("k", 1)), 16, false}, {affOf(0, termOf("i", 0)), 16, false}, {affOf(100001), math.MaxInt, false},
	} {
		wantInArr(t, c.want, c.a, box, c.size)
	}
	wantInArr(t, true, impl.Aff{}, nil, 1)
	wantInArr(t, true, affOf(15), []impl.Rng{}, 16)
	wantInArr(t, false, affOf(1), boxOf(rngOf("i", 1, 0)), 16)
	wantInArr(t, false, affOf(1), boxOf(rngOf("i", 0, 1), rngOf("i", 0, 1)), 16)
}

func TestRounds(t *testing.T) {
	for _, c := range []struct {
		want int
		l    []impl.Rng
	}{
		{1, nil}, {1, []impl.Rng{}}, {1, boxOf(rngOf("i", 0, 0))}, {1, boxOf(rngOf("i", -3, -3))}, {1, boxOf(rngOf("i", -10000, -10000), rngOf("j", 10000, 10000))},
		{2, boxOf(rngOf("i", 0, 1))}, {4, boxOf(rngOf("i", 0, 3))}, {7, boxOf(rngOf("i", -3, 3))}, {20001, boxOf(rngOf("i", -10000, 10000))},
		{6, boxOf(rngOf("i", 0, 1), rngOf("j", -1, 1))}, {6, boxOf(rngOf("j", -1, 1), rngOf("i", 0, 1))}, {24, boxOf(rngOf("i", 1, 2), rngOf("j", 1, 3), rngOf("k", 1, 4))}, {256, boxOf(eightTwos()...)}, {6561, eightRngs(1)},
		// A Lo above its Hi, alone, ahead and behind; just one less is enough.
		{0, boxOf(rngOf("i", 1, 0))}, {0, boxOf(rngOf("i", 10000, -10000))}, {0, boxOf(rngOf("i", 1, 0), rngOf("j", 0, 5))}, {0, boxOf(rngOf("j", 0, 5), rngOf("i", 1, 0))}, {0, boxOf(rngOf("i", 3, 0), rngOf("j", 3, 0))}, {0, boxOf(rngOf("i", -10000, 10000), rngOf("j", -10000, 10000), rngOf("k", 1, 0))},
		// Not BoxOk.
		{0, boxOf(rngOf("i", 0, 1), rngOf("i", 0, 1))}, {0, boxOf(rngOf("for", 0, 1))}, {0, boxOf(rngOf("", 0, 0))}, {0, boxOf(rngOf("i", 0, 10001))}, {0, boxOf(rngOf("i", -10001, 0))}, {0, append(eightRngs(0), rngOf("i", 0, 0))}, {0, boxOf(rngOf("i", math.MinInt, math.MaxInt))},
		// Just as many as are told, one way less, and more.
		{1000000, boxOf(rngOf("i", 1, 1000), rngOf("j", 1, 1000))}, {1000000, boxOf(rngOf("i", 1, 10000), rngOf("j", 1, 100))}, {999999, boxOf(rngOf("i", 1, 999), rngOf("j", 1, 1001))}, {1000000, boxOf(rngOf("i", 1, 1001), rngOf("j", 1, 1000))}, {990000, boxOf(rngOf("i", 1, 9900), rngOf("j", 1, 100))},
		{1000000, boxOf(rngOf("i", -10000, 10000), rngOf("j", -10000, 10000))}, {1000000, boxOf(rngOf("i", 1, 1000), rngOf("j", 1, 1000), rngOf("k", 1, 1))}, {1000000, boxOf(rngOf("i", 1, 1000), rngOf("j", 1, 1000), rngOf("k", 1, 2))},
	} {
		wantRounds(t, c.want, c.l)
	}
	// More than 64 bits hold, and such as would be 0 or little there.
	for _, side := range []int{256, 4096, 8192, 16384, 20001} {
		var l []impl.Rng
		for _, name := range eightNames {
			l = append(l, rngOf(name, -10000, -10000+side-1))
			if want := math.Pow(float64(side), float64(len(l))); want > 1000000 {
				wantRounds(t, 1000000, l)
			} else {
				wantRounds(t, int(want), l)
			}
		}
	}
}

func eightTwos() []impl.Rng {
	l := eightRngs(1)
	for i := range l {
		l[i].Lo = 0
	}
	return l
}

func TestBoxesAreNotWritten(t *testing.T) {
	rngs := boxOf(rngOf("k", 0, 4), rngOf("i", 1, 3), rngOf("a", -2, 0), rngOf("behind", 5, 1), rngOf("z", 9, 9))
	terms := []impl.Term{termOf("i", 2), termOf("k", -3), termOf("behind", 4), termOf("z", 5)}
	text := func() string { return boxText(rngs) + affText(affOf(0, terms...)) }
	kept := text()
	for count := range 5 {
		for sums := range 4 {
			a := impl.Aff{C: 3, T: terms[:sums]}
			impl.BoxOk(rngs[:count])
			impl.Least(a, rngs[:count])
			impl.Most(a, rngs[:count])
			impl.InArr(a, rngs[:count], 16)
			impl.Rounds(rngs[:count])
			if text() != kept {
				t.Fatal("an argument was written into")
			}
		}
	}
}
