package tests

import (
	"math"
	"math/rand/v2"
	"slices"
	"testing"

	"loop.example/g00958/impl"
)

const maxStamp = impl.MaxStamp

func span(lo, hi int) impl.Interval {
	return impl.Interval{Lo: lo, Hi: hi}
}

func isSpan(x impl.Interval) bool {
	return x.Lo <= x.Hi && x.Lo >= -maxStamp && x.Hi <= maxStamp
}

func holds(x impl.Interval, n int) bool {
	return x.Lo <= n && n <= x.Hi
}

var (
	// goodEnds may be bounds of an interval, badEnds may not.
	goodEnds = []int{-maxStamp, -maxStamp + 1, -40, -6, -5, -1, 0, 1, 2, 5, 9, 40, maxStamp - 1, maxStamp}
	badEnds  = []int{-maxStamp - 1, maxStamp + 1, math.MinInt, math.MinInt + 1, math.MaxInt, math.MaxInt - 1}

	// stamps and notStamps are in and out of the range of what a clock shows.
	stamps    = []int{0, 1, 2, 30, maxStamp / 2, maxStamp - 1, maxStamp}
	notStamps = []int{-1, -2, -maxStamp, maxStamp + 1, 2 * maxStamp, math.MinInt, math.MaxInt}
)

// goodSpans returns all intervals with both bounds in goodEnds.
func goodSpans() []impl.Interval {
	l := []impl.Interval{}
	for i, lo := range goodEnds {
		for _, hi := range goodEnds[i:] {
			l = append(l, span(lo, hi))
		}
	}
	return l
}

// badSpans returns what is no valid interval: bounds in the wrong order, and
// each bound out of range, also where the other one is beyond it.
func badSpans() []impl.Interval {
	l := []impl.Interval{}
	for i, hi := range goodEnds {
		for _, lo := range goodEnds[i+1:] {
			l = append(l, span(lo, hi))
		}
	}
	for _, n := range badEnds {
		for _, m := range slices.Concat(goodEnds, badEnds) {
			l = append(l, span(n, m), span(m, n))
		}
	}
	return l
}

// around returns the numbers near to all bounds of the intervals, by which two
// intervals can be told apart.
func around(l ...impl.Interval) []int {
	numbers := []int{-maxStamp - 1, -1, 0, maxStamp + 1}
	for _, x := range l {
		numbers = append(numbers, x.Lo-1, x.Lo, x.Hi, x.Hi+1)
	}
	return numbers
}

func TestStampLimit(t *testing.T) {
	if maxStamp != 100000 {
		t.Errorf("MaxStamp is %d", maxStamp)
	}
}

func TestIsInterval(t *testing.T) {
	cases := []struct {
		lo, hi int
		want   bool
	}{
		{1, 5, true},
		{-5, -1, true},
		{-5, 9, true},
		{0, 1, true},
		// Lo equal to Hi, and one more than Hi
		{0, 0, true},
		{7, 7, true},
		{-7, -7, true},
		{1, 0, false},
		{8, 7, false},
		{-6, -7, false},
		{5, -5, false},
		// the ends of the range, and one beyond each
		{-maxStamp, maxStamp, true},
		{-maxStamp, -maxStamp, true},
		{maxStamp, maxStamp, true},
		{-maxStamp, 0, true},
		{0, maxStamp, true},
		{-maxStamp - 1, maxStamp, false},
		{-maxStamp - 1, 0, false},
		{-maxStamp - 1, -maxStamp, false},
		{-maxStamp - 1, -maxStamp - 1, false},
		{-maxStamp, maxStamp + 1, false},
		{0, maxStamp + 1, false},
		{maxStamp, maxStamp + 1, false},
		{maxStamp + 1, maxStamp + 1, false},
		{-maxStamp - 1, maxStamp + 1, false},
		{maxStamp, -maxStamp, false},
		{maxStamp + 1, 0, false},
		{0, -maxStamp - 1, false},
		// the least and the greatest int
		{math.MinInt, math.MaxInt, false},
		{math.MaxInt, math.MinInt, false},
		{math.MinInt, math.MinInt, false},
		{math.MaxInt, math.MaxInt, false},
		{math.MinInt, 0, false},
		{0, math.MinInt, false},
		{math.MaxInt, 0, false},
		{0, math.MaxInt, false},
	}
	for _, c := range cases {
		if impl.IsInterval(span(c.lo, c.hi)) != c.want {
			t.Errorf("IsInterval of %d to %d is not %t", c.lo, c.hi, c.want)
		}
	}
	for _, x := range goodSpans() {
		if !impl.IsInterval(x) {
			t.Errorf("%v is no interval", x)
		}
	}
	for _, x := range badSpans() {
		if impl.IsInterval(x) {
			t.Errorf("%v is an interval", x)
		}
	}
}

func TestMeetIntervals(t *testing.T) {
	cases := []struct {
		a, b, want impl.Interval
		ok         bool
	}{
		// intervals that overlap
		{span(1, 6), span(4, 9), span(4, 6), true},
		{span(-9, 2), span(-3, 5), span(-3, 2), true},
		{span(-maxStamp, 1), span(0, maxStamp), span(0, 1), true},
		// that touch in one number
		{span(1, 5), span(5, 9), span(5, 5), true},
		{span(-4, 0), span(0, 0), span(0, 0), true},
		{span(-maxStamp, -2), span(-2, maxStamp), span(-2, -2), true},
		// that are apart, by one and by more
		{span(1, 4), span(5, 9), span(0, 0), false},
		{span(-3, -1), span(0, 3), span(0, 0), false},
		{span(4, 4), span(5, 5), span(0, 0), false},
		{span(-9, -5), span(5, 9), span(0, 0), false},
		{span(-maxStamp, -maxStamp), span(maxStamp, maxStamp), span(0, 0), false},
		// one inside the other, also with a bound in common, and both the same
		{span(1, 9), span(3, 5), span(3, 5), true},
		{span(1, 9), span(4, 4), span(4, 4), true},
		{span(1, 9), span(1, 5), span(1, 5), true},
		{span(1, 9), span(5, 9), span(5, 9), true},
		{span(-2, 3), span(-2, 3), span(-2, 3), true},
		{span(-maxStamp, maxStamp), span(-8, -7), span(-8, -7), true},
		{span(-maxStamp, maxStamp), span(-maxStamp, maxStamp), span(-maxStamp, maxStamp), true},
		// one that is not valid
		{span(1, 5), span(5, 4), span(0, 0), false},
		{span(1, 9), span(6, 3), span(0, 0), false},
		{span(1, 5), span(2, maxStamp+1), span(0, 0), false},
		{span(1, 5), span(-maxStamp-1, 3), span(0, 0), false},
		{span(1, 5), span(math.MinInt, math.MaxInt), span(0, 0), false},
		{span(0, 0), span(math.MaxInt, math.MinInt), span(0, 0), false},
		// both are not valid, also where valid numbers are in both
		{span(2, 1), span(2, 1), span(0, 0), false},
		{span(-maxStamp-1, 5), span(1, maxStamp+1), span(0, 0), false},
		{span(math.MinInt, 5), span(1, math.MaxInt), span(0, 0), false},
	}
	for _, c := range cases {
		for _, pair := range [][2]impl.Interval{{c.a, c.b}, {c.b, c.a}} {
			if got, ok := impl.MeetIntervals(pair[0], pair[1]); got != c.want || ok != c.ok {
				t.Errorf("MeetIntervals%v is %v, %t, not %v, %t", pair, got, ok, c.want, c.ok)
			}
		}
	}
}

// checkCommon checks that x and ok are what all intervals of l have in common.
func checkCommon(t *testing.T, l []impl.Interval, x impl.Interval, ok bool) {
	t.Helper()
	inAll := func(n int) bool {
		return !slices.ContainsFunc(l, func(y impl.Interval) bool { return !holds(y, n) })
	}
	numbers := around(l...)
	if want := len(l) > 0 && !slices.ContainsFunc(l, func(y impl.Interval) bool { return !isSpan(y) }) && slices.ContainsFunc(numbers, inAll); ok != want {
		t.Errorf("that %v meet is %t, not %t", l, ok, want)
	}
	if !ok && x != span(0, 0) || ok && !isSpan(x) {
		t.Errorf("%v meet in %v, %t", l, x, ok)
	}
	for _, n := range numbers {
		if ok && holds(x, n) != inAll(n) {
			t.Errorf("%v meet in %v, but not at %d", l, x, n)
		}
	}
}

func TestMeetIntervalsHasWhatIsInBoth(t *testing.T) {
	good, bad := goodSpans(), badSpans()
	for _, a := range good {
		for _, b := range good {
			x, ok := impl.MeetIntervals(a, b)
			checkCommon(t, []impl.Interval{a, b}, x, ok)
		}
	}
	for i, a := range bad {
		for _, b := range slices.Concat(good, bad[i:]) {
			for _, pair := range [][2]impl.Interval{{a, b}, {b, a}} {
				if x, ok := impl.MeetIntervals(pair[0], pair[1]); ok || x != span(0, 0) {
					t.Errorf("MeetIntervals%v is %v, %t", pair, x, ok)
				}
			}
		}
	}
}

func TestMeetAll(t *testing.T) {
	wide := span(-maxStamp, maxStamp)
	cases := []struct {
		l    []impl.Interval
		want impl.Interval
		ok   bool
	}{
		// none
		{nil, span(0, 0), false},
		{[]impl.Interval{}, span(0, 0), false},
		// one
		{[]impl.Interval{span(3, 8)}, span(3, 8), true},
		{[]impl.Interval{span(-4, -4)}, span(-4, -4), true},
		{[]impl.Interval{span(0, 0)}, span(0, 0), true},
		{[]impl.Interval{wide}, wide, true},
		{[]impl.Interval{span(maxStamp, maxStamp)}, span(maxStamp, maxStamp), true},
		{[]impl.Interval{span(8, 3)}, span(0, 0), false},
		{[]impl.Interval{span(-maxStamp-1, maxStamp)}, span(0, 0), false},
		{[]impl.Interval{span(-maxStamp, maxStamp+1)}, span(0, 0), false},
		{[]impl.Interval{span(math.MinInt, math.MaxInt)}, span(0, 0), false},
		// many
		{[]impl.Interval{span(-5, 9), span(2, 20), span(1, 8)}, span(2, 8), true},
		{[]impl.Interval{span(3, 3), wide, span(-1, 3), span(0, 9)}, span(3, 3), true},
		{[]impl.Interval{wide, wide, wide}, wide, true},
		{slices.Repeat([]impl.Interval{span(-2, 6), span(-4, 4)}, 5000), span(-2, 4), true},
		// many that touch in one number
		{[]impl.Interval{span(1, 5), span(5, 9), span(2, 7)}, span(5, 5), true},
		{[]impl.Interval{span(-9, 0), span(-3, 3), span(0, 4), span(-1, 1)}, span(0, 0), true},
		{[]impl.Interval{span(-1, 2), span(2, 2), span(2, 5)}, span(2, 2), true},
		// many that have nothing in common, also if each two of some have
		{[]impl.Interval{span(1, 4), span(5, 9), span(1, 9)}, span(0, 0), false},
		{[]impl.Interval{span(1, 9), span(1, 4), span(5, 9)}, span(0, 0), false},
		{[]impl.Interval{span(1, 3), span(3, 5), span(5, 7)}, span(0, 0), false},
		{[]impl.Interval{span(1, 2), span(4, 5), span(0, 0)}, span(0, 0), false},
		{[]impl.Interval{span(1, 2), span(4, 5), wide, wide}, span(0, 0), false},
		{[]impl.Interval{span(-5, -4), span(4, 5), span(-1, 1)}, span(0, 0), false},
	}
	for _, c := range cases {
		if got, ok := impl.MeetAll(c.l); got != c.want || ok != c.ok {
			t.Errorf("MeetAll of %d intervals, %v .., is %v, %t, not %v, %t", len(c.l), c.l[:min(len(c.l), 5)], got, ok, c.want, c.ok)
		}
	}
}

func TestMeetAllRejectsWhatIsNoInterval(t *testing.T) {
	lists := [][]impl.Interval{
		{}, {span(2, 9)}, {span(0, 0)}, {span(1, 5), span(5, 9)}, {span(-5, 9), span(2, 20), span(1, 8)},
		// nothing is in common before it, or behind it
		{span(1, 4), span(5, 9)}, {span(1, 4), span(5, 9), span(0, 9)}, {span(-maxStamp, -maxStamp), span(maxStamp, maxStamp), span(0, 0)},
	}
	for _, l := range lists {
		for place := range len(l) + 1 {
			for _, bad := range badSpans() {
				with := slices.Insert(slices.Clone(l), place, bad)
				if got, ok := impl.MeetAll(with); ok || got != span(0, 0) {
					t.Errorf("MeetAll(%v) is %v, %t", with, got, ok)
				}
			}
		}
	}
}

func TestMeetAllHasWhatIsInAll(t *testing.T) {
	random := rand.New(rand.NewPCG(12, 958))
	good, bad := goodSpans(), badSpans()
	met, apart := 0, 0
	for n := range 20000 {
		l := make([]impl.Interval, n%7)
		for i := range l {
			if l[i] = good[random.IntN(len(good))]; random.IntN(40) == 0 {
				l[i] = bad[random.IntN(len(bad))]
			}
		}
		x, ok := impl.MeetAll(l)
		checkCommon(t, l, x, ok)
		if ok && len(l) > 2 {
			met++
		}
		if !ok && len(l) > 2 {
			apart++
		}
		random.Shuffle(len(l), func(i, j int) { l[i], l[j] = l[j], l[i] })
		if y, also := impl.MeetAll(l); y != x || also != ok {
			t.Errorf("MeetAll(%v) is %v, %t, but in another order %v, %t", l, y, also, x, ok)
		}
	}
	if met < 1000 || apart < 1000 {
		t.Errorf("of the lists %d meet and %d do not", met, apart)
	}
}

func TestOffsetOf(t *testing.T) {
	cases := []struct {
		sent, received, back, home int
		want                       impl.Interval
		ok                         bool
	}{
		{100, 140, 150, 130, span(20, 40), true},
		{100, 140, 150, 190, span(-40, 40), true},
		{500, 140, 150, 530, span(-380, -360), true},
		{0, 0, 0, 10, span(-10, 0), true},
		// both ways take no time
		{100, 140, 150, 110, span(40, 40), true},
		{100, 60, 70, 110, span(-40, -40), true},
		{7, 7, 7, 7, span(0, 0), true},
		{0, 0, 0, 0, span(0, 0), true},
		{maxStamp, maxStamp, maxStamp, maxStamp, span(0, 0), true},
		{0, maxStamp, maxStamp, 0, span(maxStamp, maxStamp), true},
		{maxStamp, 0, 0, maxStamp, span(-maxStamp, -maxStamp), true},
		// back - home is one more than received - sent
		{100, 140, 151, 110, span(0, 0), false},
		{100, 140, 150, 109, span(0, 0), false},
		{101, 140, 150, 110, span(0, 0), false},
		{100, 139, 150, 110, span(0, 0), false},
		{0, 0, 1, 0, span(0, 0), false},
		{1, 0, 0, 0, span(0, 0), false},
		{100, 110, 150, 130, span(0, 0), false},
		// each number at 0 and at MaxStamp
		{0, 140, 150, 130, span(20, 140), true},
		{100, 0, 150, 260, span(-110, -100), true},
		{100, 140, 0, 130, span(-130, 40), true},
		{0, 200, 150, 0, span(150, 200), true},
		{maxStamp, 140, 0, maxStamp, span(-maxStamp, 140-maxStamp), true},
		{100, maxStamp, 150, 130, span(20, maxStamp-100), true},
		{100, maxStamp, maxStamp, 130, span(maxStamp-130, maxStamp-100), true},
		{100, 140, 150, maxStamp, span(150-maxStamp, 40), true},
		{0, maxStamp, 0, maxStamp, span(-maxStamp, maxStamp), true},
		{maxStamp, 0, maxStamp, 0, span(0, 0), false},
		// what is sent back before it was received, or home before it was sent
		{100, 140, 30, 20, span(10, 40), true},
		{100, 140, 0, 0, span(0, 40), true},
	}
	for _, c := range cases {
		if got, ok := impl.OffsetOf(c.sent, c.received, c.back, c.home); got != c.want || ok != c.ok {
			t.Errorf("OffsetOf(%d, %d, %d, %d) is %v, %t, not %v, %t", c.sent, c.received, c.back, c.home, got, ok, c.want, c.ok)
		}
	}
}

func TestOffsetOfRejectsWhatNoClockShows(t *testing.T) {
	// The first four numbers fit together also with most of the others in place
	// of one, so that nothing but its range tells against it.
	for _, good := range [][4]int{{0, maxStamp, 0, maxStamp}, {100, 140, 150, 130}, {7, 7, 7, 7}, {0, 0, 0, 0}, {maxStamp, maxStamp, maxStamp, maxStamp}} {
		for place := range good {
			for _, n := range notStamps {
				bad := good
				bad[place] = n
				if got, ok := impl.OffsetOf(bad[0], bad[1], bad[2], bad[3]); ok || got != span(0, 0) {
					t.Errorf("OffsetOf%v is %v, %t", bad, got, ok)
				}
			}
		}
	}
}

// takesTime reports whether both ways take at least no time if the second clock
// is ahead of the first one by an offset.
func takesTime(l [4]int, offset int) bool {
	there := l[1] - (l[0] + offset)
	again := l[3] - (l[2] - offset)
	return there >= 0 && again >= 0
}

func checkOffsets(t *testing.T, l [4]int) {
	t.Helper()
	x, ok := impl.OffsetOf(l[0], l[1], l[2], l[3])
	if slices.ContainsFunc(l[:], func(n int) bool { return n < 0 || n > maxStamp }) {
		if ok || x != span(0, 0) {
			t.Errorf("OffsetOf%v is %v, %t", l, x, ok)
		}
		return
	}
	found := false
	for _, offset := range around(x, span(l[1]-l[0], l[2]-l[3])) {
		found = found || takesTime(l, offset)
		if ok && holds(x, offset) != takesTime(l, offset) {
			t.Errorf("OffsetOf%v is %v, but not at %d", l, x, offset)
		}
	}
	if ok != found || !ok && x != span(0, 0) || ok && !isSpan(x) {
		t.Errorf("OffsetOf%v is %v, %t", l, x, ok)
	}
}

func TestOffsetOfHasAllOffsets(t *testing.T) {
	numbers := slices.Concat(stamps, notStamps)
	for _, sent := range numbers {
		for _, received := range numbers {
			for _, back := range numbers {
				for _, home := range numbers {
					checkOffsets(t, [4]int{sent, received, back, home})
				}
			}
		}
	}
	random := rand.New(rand.NewPCG(13, 958))
	for range 50000 {
		checkOffsets(t, [4]int{random.IntN(20), random.IntN(20), random.IntN(20), random.IntN(20)})
	}
}

func TestOneWay(t *testing.T) {
	cases := []struct {
		sent, received int
		offset, want   impl.Interval
		ok             bool
	}{
		// received - sent - Hi is negative, 0 and positive
		{100, 140, span(20, 50), span(0, 20), true},
		{100, 140, span(20, 41), span(0, 20), true},
		{100, 140, span(20, 40), span(0, 20), true},
		{100, 140, span(20, 39), span(1, 20), true},
		{100, 140, span(20, 30), span(10, 20), true},
		{100, 140, span(-30, -20), span(60, 70), true},
		{140, 100, span(-60, -50), span(10, 20), true},
		{100, 140, span(10, 10), span(30, 30), true},
		{0, 0, span(-maxStamp, maxStamp), span(0, maxStamp), true},
		// received - sent - Lo is 0 and negative
		{100, 140, span(40, 50), span(0, 0), true},
		{100, 140, span(40, 40), span(0, 0), true},
		{0, 0, span(0, 0), span(0, 0), true},
		{100, 140, span(41, 50), span(0, 0), false},
		{100, 140, span(41, 41), span(0, 0), false},
		{100, 140, span(50, 60), span(0, 0), false},
		{140, 100, span(0, 0), span(0, 0), false},
		{140, 100, span(-39, 5), span(0, 0), false},
		// the ends of the range of sent and received
		{0, maxStamp, span(0, 0), span(maxStamp, maxStamp), true},
		{0, maxStamp, span(maxStamp, maxStamp), span(0, 0), true},
		{0, maxStamp, span(0, maxStamp), span(0, maxStamp), true},
		{maxStamp, 0, span(-maxStamp, -maxStamp), span(0, 0), true},
		{maxStamp, 0, span(-maxStamp, maxStamp), span(0, 0), true},
		{maxStamp, 0, span(-maxStamp+1, maxStamp), span(0, 0), false},
		{maxStamp, maxStamp, span(-9, 4), span(0, 9), true},
		{0, 0, span(-9, -4), span(4, 9), true},
		// the greatest time is MaxStamp, or would be greater
		{0, 40, span(40-maxStamp, 9), span(31, maxStamp), true},
		{0, 40, span(39-maxStamp, 9), span(0, 0), false},
		{0, maxStamp, span(-1, 9), span(0, 0), false},
		{0, maxStamp, span(-1, -1), span(0, 0), false},
		{0, maxStamp, span(-maxStamp, maxStamp), span(0, 0), false},
		{0, maxStamp, span(-maxStamp, -maxStamp), span(0, 0), false},
		{0, 1, span(-maxStamp, maxStamp), span(0, 0), false},
	}
	for _, c := range cases {
		if got, ok := impl.OneWay(c.sent, c.received, c.offset); got != c.want || ok != c.ok {
			t.Errorf("OneWay(%d, %d, %v) is %v, %t, not %v, %t", c.sent, c.received, c.offset, got, ok, c.want, c.ok)
		}
	}
}

func TestOneWayRejectsWhatIsNotValid(t *testing.T) {
	check := func(sent, received int, offset impl.Interval) {
		if got, ok := impl.OneWay(sent, received, offset); ok || got != span(0, 0) {
			t.Errorf("OneWay(%d, %d, %v) is %v, %t", sent, received, offset, got, ok)
		}
	}
	for _, bad := range notStamps {
		for _, offset := range goodSpans() {
			for _, good := range stamps {
				check(bad, good, offset)
				check(good, bad, offset)
			}
			check(bad, bad, offset)
		}
	}
	for _, offset := range badSpans() {
		for _, sent := range slices.Concat(stamps, notStamps) {
			for _, received := range slices.Concat(stamps, notStamps) {
				check(sent, received, offset)
			}
		}
	}
}

func TestOneWayHasAllTimes(t *testing.T) {
	for _, sent := range stamps {
		for _, received := range stamps {
			for _, offset := range goodSpans() {
				checkTimes(t, sent, received, offset)
			}
		}
	}
	random := rand.New(rand.NewPCG(14, 958))
	for range 50000 {
		lo := random.IntN(30) - 15
		checkTimes(t, random.IntN(20), random.IntN(20), span(lo, lo+random.IntN(10)))
	}
}

// checkTimes asks for each time whether what was sent and took so long shows an
// offset that may be.
func checkTimes(t *testing.T, sent, received int, offset impl.Interval) {
	t.Helper()
	isTime := func(time int) bool {
		return time >= 0 && holds(offset, received-(sent+time))
	}
	x, ok := impl.OneWay(sent, received, offset)
	found, greatest := false, 0
	for _, time := range around(x, span(received-sent-offset.Lo, received-sent-offset.Hi)) {
		if isTime(time) {
			found, greatest = true, max(greatest, time)
		}
		if ok && holds(x, time) != isTime(time) {
			t.Errorf("OneWay(%d, %d, %v) is %v, but not at %d", sent, received, offset, x, time)
		}
	}
	if want := found && greatest <= maxStamp; ok != want || !ok && x != span(0, 0) || ok && !isSpan(x) {
		t.Errorf("OneWay(%d, %d, %v) is %v, %t", sent, received, offset, x, ok)
	}
}

func TestWidthOf(t *testing.T) {
	cases := []struct {
		x    impl.Interval
		want int
	}{
		{span(20, 40), 20},
		{span(-5, 9), 14},
		{span(-9, -5), 4},
		{span(3, 4), 1},
		// one number, and the widest interval
		{span(0, 0), 0},
		{span(7, 7), 0},
		{span(-maxStamp, -maxStamp), 0},
		{span(maxStamp, maxStamp), 0},
		{span(-maxStamp, maxStamp), 2 * maxStamp},
		{span(-maxStamp, 0), maxStamp},
		{span(0, maxStamp), maxStamp},
		// what is no interval
		{span(3, 2), -1},
		{span(9, -9), -1},
		{span(maxStamp, -maxStamp), -1},
		{span(0, maxStamp+1), -1},
		{span(-maxStamp-1, 0), -1},
		{span(maxStamp+1, maxStamp+1), -1},
		{span(math.MinInt, math.MaxInt), -1},
		{span(math.MaxInt, math.MinInt), -1},
		{span(math.MinInt, math.MinInt), -1},
	}
	for _, c := range cases {
		if got := impl.WidthOf(c.x); got != c.want {
			t.Errorf("WidthOf(%v) is %d, not %d", c.x, got, c.want)
		}
	}
	for _, x := range goodSpans() {
		if got := impl.WidthOf(x); got < 0 || x.Lo+got != x.Hi {
			t.Errorf("WidthOf(%v) is %d", x, got)
		}
	}
	for _, x := range badSpans() {
		if got := impl.WidthOf(x); got != -1 {
			t.Errorf("WidthOf(%v) is %d", x, got)
		}
	}
}

// exchange returns what both clocks show if the second one is ahead by an
// offset, the ways take these times, and the other one waits before it answers.
func exchange(sent, offset, there, wait, again int) [4]int {
	received := sent + there + offset
	back := received + wait
	return [4]int{sent, received, back, back + again - offset}
}

func isShown(l [4]int) bool {
	return slices.Min(l[:]) >= 0 && slices.Max(l[:]) <= maxStamp
}

// checkExchange returns the interval of the offset.
func checkExchange(t *testing.T, l [4]int, offset, there, again int) impl.Interval {
	t.Helper()
	x, ok := impl.OffsetOf(l[0], l[1], l[2], l[3])
	if !ok || !holds(x, offset) {
		t.Fatalf("OffsetOf%v is %v, %t, without %d", l, x, ok, offset)
	}
	if got := impl.WidthOf(x); got != there+again {
		t.Errorf("WidthOf(%v) is %d, but the ways take %d and %d", x, got, there, again)
	}
	first, ok := impl.OneWay(l[0], l[1], x)
	if want := there+again <= maxStamp; ok != want || ok && !holds(first, there) {
		t.Errorf("OneWay(%d, %d, %v) is %v, %t, without %d", l[0], l[1], x, first, ok, there)
	}
	second, ok := impl.OneWay(l[2], l[3], span(-x.Hi, -x.Lo))
	if want := there+again <= maxStamp; ok != want || ok && !holds(second, again) {
		t.Errorf("OneWay(%d, %d, %v) back is %v, %t, without %d", l[2], l[3], x, second, ok, again)
	}
	for _, room := range []int{0, 1, 50} {
		known := span(offset-room, offset+2*room)
		if time, ok := impl.OneWay(l[0], l[1], known); isSpan(known) && there+room <= maxStamp && (!ok || !holds(time, there)) {
			t.Errorf("OneWay(%d, %d, %v) is %v, %t, without %d", l[0], l[1], known, time, ok, there)
		}
	}
	return x
}

func TestTheTrueOffsetIsInTheInterval(t *testing.T) {
	times := []int{0, 1, 2, 30, maxStamp / 2, maxStamp/2 + 1, maxStamp - 1, maxStamp}
	count := 0
	for _, offset := range slices.Concat(goodEnds, []int{-30, 30, maxStamp / 2, -maxStamp / 2}) {
		for _, sent := range stamps {
			for _, there := range times {
				for _, wait := range []int{0, 1, 30, maxStamp / 2} {
					for _, again := range times {
						if l := exchange(sent, offset, there, wait, again); isShown(l) {
							checkExchange(t, l, offset, there, again)
							count++
						}
					}
				}
			}
		}
	}
	if count < 2000 {
		t.Errorf("only %d exchanges are in range", count)
	}
}

func TestTheTrueOffsetIsInAllIntervals(t *testing.T) {
	random := rand.New(rand.NewPCG(15, 958))
	for n := range 5000 {
		room := []int{3, 20, maxStamp / 8}[n%3]
		offset := random.IntN(2*room+1) - room
		l := []impl.Interval{}
		for range 1 + n%6 {
			there, again := random.IntN(room), random.IntN(room)
			shown := exchange(room+random.IntN(room), offset, there, random.IntN(room), again)
			l = append(l, checkExchange(t, shown, offset, there, again))
		}
		x, ok := impl.MeetAll(l)
		if !ok || !holds(x, offset) {
			t.Errorf("MeetAll(%v) is %v, %t, without %d", l, x, ok, offset)
		}
		checkCommon(t, l, x, ok)
	}
}

func TestMeetAllLeavesItsList(t *testing.T) {
	random := rand.New(rand.NewPCG(16, 958))
	good, bad := goodSpans(), badSpans()
	for n := range 5000 {
		whole := make([]impl.Interval, 12)
		for i := range whole {
			if whole[i] = good[random.IntN(len(good))]; random.IntN(10) == 0 {
				whole[i] = bad[random.IntN(len(bad))]
			}
		}
		before := slices.Clone(whole)
		l := whole[:n%len(whole)]
		x, ok := impl.MeetAll(l)
		if !slices.Equal(whole, before) {
			t.Fatalf("MeetAll changes %v into %v", before, whole)
		}
		// What is behind the list does not count, and what was in it is not
		// remembered.
		if y, also := impl.MeetAll(slices.Clone(l)); y != x || also != ok {
			t.Errorf("MeetAll(%v) is %v, %t, and then %v, %t", l, x, ok, y, also)
		}
		clear(whole)
		if y, also := impl.MeetAll(l); y != span(0, 0) || also != (len(l) > 0) {
			t.Errorf("MeetAll of %d intervals from 0 to 0 is %v, %t", len(l), y, also)
		}
	}
}
