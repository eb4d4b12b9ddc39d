package tests

import (
	"math"
	"math/rand/v2"
	"slices"
	"testing"

	"loop.example/g00958/impl"
)

// A reading has rows of zeros and ones, their number of columns, and the
// interval in which the sum of each row lies.
type reading struct {
	sheet
	l []impl.Interval
}

func read(m [][]int, cols int, l ...impl.Interval) reading {
	return reading{sheet{m, cols}, l}
}

func spans(l ...impl.Interval) []impl.Interval {
	return l
}

// all returns as many intervals from 0 to MaxStamp.
func all(cols int) []impl.Interval {
	return slices.Repeat(spans(span(0, maxStamp)), cols)
}

func ones(cols int) []int {
	return slices.Repeat([]int{1}, cols)
}

// hold reports whether each delay lies in the interval at its place.
func hold(x []impl.Interval, delays []int) bool {
	return slices.EqualFunc(x, delays, holds)
}

// notColumns are numbers of columns that no matrix has.
var notColumns = []int{0, -1, -2, maxCols + 1, maxCols + 2, math.MinInt, math.MinInt + 1, math.MaxInt, math.MaxInt - 1}

// readings are valid, each for what it has at a limit or has none of.
var readings = []reading{
	// no rows
	read(nil, 1), read(rows(), 1), read(nil, 3), read(nil, maxCols),
	// no links in a row, one link, and all links
	read(rows([]int{0}), 1, span(0, 0)), read(rows([]int{0, 0}), 2, span(3, 9)), read(rows(make([]int, maxCols)), maxCols, span(maxStamp, maxStamp)),
	read(rows([]int{1}), 1, span(2, 5)), read(rows([]int{0, 1, 0}), 3, span(2, 5)),
	read(rows([]int{1, 1}), 2, span(2, 5)), read(rows(ones(maxCols)), maxCols, span(2, 5)),
	// the ends of the range of an interval
	read(rows([]int{1}), 1, span(0, 0)), read(rows([]int{1}), 1, span(0, maxStamp)), read(rows([]int{1}), 1, span(maxStamp, maxStamp)),
	// many rows, also some that contradict each other
	read(rows([]int{1, 1, 0}, []int{0, 1, 1}, []int{1, 0, 0}), 3, span(10, 12), span(20, 21), span(3, 4)),
	read(rows([]int{1}, []int{1}), 1, span(1, 2), span(4, 5)),
	read(rows([]int{1, 0}, []int{1, 0}, []int{0, 0}), 2, span(1, 2), span(4, 5), span(1, 1)),
	read(slices.Repeat(rows([]int{1}), maxRows), 1, slices.Repeat(spans(span(0, 7)), maxRows)...),
	read(slices.Repeat(rows(ones(maxCols)), maxRows), maxCols, slices.Repeat(spans(span(6, 7)), maxRows)...),
}

// notReadings are refused, each for one reason alone where that is possible.
func notReadings() []reading {
	l := []reading{
		// entries that a matrix may have, but bounds may not, also in the last place
		read(rows([]int{2}), 1, span(0, 9)), read(rows([]int{-1}), 1, span(0, 9)), read(rows([]int{-2}), 1, span(0, 9)),
		read(rows([]int{1, 0, 2}), 3, span(0, 9)), read(rows([]int{1, 0, -1}), 3, span(0, 9)),
		read(rows([]int{1, 0}, []int{0, 2}), 2, span(0, 9), span(0, 9)), read(rows([]int{-1, 0}, []int{0, 1}), 2, span(0, 9), span(0, 9)),
		// more intervals than rows, and fewer
		read(nil, 1, span(0, 9)), read(rows(), maxCols, span(0, 9)), read(rows([]int{1}), 1), read(rows([]int{0}), 1),
		read(rows([]int{1}), 1, span(0, 9), span(0, 9)),
		read(rows([]int{1, 0}, []int{0, 1}), 2, span(0, 9)), read(rows([]int{1, 0}, []int{0, 1}), 2), read(rows([]int{1, 0}, []int{0, 1}), 2, span(0, 9), span(0, 9), span(0, 9)),
		// a Lo less than 0, and an interval that is not valid with a Lo that is not
		read(rows([]int{1}), 1, span(-1, 9)), read(rows([]int{0}), 1, span(-1, 0)), read(rows([]int{1}), 1, span(-9, -1)), read(rows([]int{1}), 1, span(-maxStamp, maxStamp)),
		read(rows([]int{1}), 1, span(3, 2)), read(rows([]int{1}), 1, span(0, maxStamp+1)), read(rows([]int{1}), 1, span(1, 0)),
	}
	for _, s := range notSheets {
		if count := len(s.m); count <= maxRows+1 {
			l = append(l, reading{s, slices.Repeat(spans(span(0, 9)), count)})
		}
	}
	for _, cols := range notColumns {
		l = append(l, read(nil, cols), read(rows([]int{1}), cols, span(0, 9)))
	}
	// a bad interval among good ones
	for _, bad := range append(badSpans(), span(-1, 0), span(-1, 9), span(-maxStamp, 9)) {
		for place := range 3 {
			given := spans(span(0, 9), span(0, 9), span(0, 9))
			given[place] = bad
			l = append(l, read(rows([]int{1, 0}, []int{1, 1}, []int{0, 0}), 2, given...))
		}
	}
	return l
}

// A reader makes readings at random.
type reader struct {
	*rand.Rand
}

func (r reader) rows(cols, count int) [][]int {
	m := make([][]int, count)
	for i := range m {
		m[i] = make([]int, cols)
		for j := range m[i] {
			m[i][j] = r.IntN(2)
		}
	}
	return m
}

// loose returns intervals that have nothing to do with the rows.
func (r reader) loose(count, most int) []impl.Interval {
	l := make([]impl.Interval, count)
	for i := range l {
		lo := r.IntN(most + 1)
		l[i] = span(lo, lo+r.IntN(most-lo+1))
	}
	return l
}

// around returns a reading that these delays have, with the limits of an
// interval up to room away from the sum. A sum beyond MaxStamp has no row.
func (r reader) around(delays []int, count, room int) reading {
	s := reading{sheet: sheet{cols: len(delays)}}
	for _, row := range r.rows(len(delays), count) {
		if sum := sumOf(row, delays); sum <= maxStamp {
			s.m = append(s.m, row)
			s.l = append(s.l, r.near(sum, room))
		}
	}
	return s
}

func (r reader) near(n, room int) impl.Interval {
	return span(max(0, n-r.IntN(room+1)), min(maxStamp, n+r.IntN(room+1)))
}

func (r reader) delays(cols, most int) []int {
	l := make([]int, cols)
	for i := range l {
		l[i] = r.IntN(most + 1)
	}
	return l
}

func sumOf(row, delays []int) int {
	sum := 0
	for i, n := range row {
		sum += n * delays[i]
	}
	return sum
}

// manyReadings returns readings of every size, of small and of great numbers,
// half of them such as some delays have.
func manyReadings(seed uint64) []reading {
	random := reader{rand.New(rand.NewPCG(seed, 958))}
	l := slices.Clone(readings)
	for cols := 1; cols <= maxCols; cols++ {
		for count := 0; count <= maxRows; count++ {
			for _, most := range []int{2, 5, 60, maxStamp / 4, maxStamp} {
				for range 3 {
					l = append(l, random.around(random.delays(cols, most), count, most/2))
					l = append(l, reading{sheet{random.rows(cols, count), cols}, random.loose(count, most)})
				}
			}
		}
	}
	return l
}

func TestAreBounds(t *testing.T) {
	for _, s := range manyReadings(20) {
		if !impl.AreBounds(s.m, s.l, s.cols) {
			t.Errorf("%v are no bounds", s)
		}
		for _, cols := range append(notColumns, s.cols-1, s.cols+1) {
			if want := len(s.m) == 0 && cols >= 1 && cols <= maxCols; impl.AreBounds(s.m, s.l, cols) != want {
				t.Errorf("AreBounds(%v, %v, %d) is not %t", s.m, s.l, cols, want)
			}
		}
	}
	for _, s := range notReadings() {
		if impl.AreBounds(s.m, s.l, s.cols) {
			t.Errorf("%v are bounds", s)
		}
	}
}

func TestStartBounds(t *testing.T) {
	for cols := 1; cols <= maxCols; cols++ {
		if got := impl.StartBounds(cols); !slices.Equal(got, all(cols)) {
			t.Errorf("StartBounds(%d) is %v", cols, got)
		}
	}
	for _, cols := range notColumns {
		if got := impl.StartBounds(cols); len(got) != 0 {
			t.Errorf("StartBounds(%d) is %v", cols, got)
		}
	}
}

// narrowings have what NarrowOnce makes of intervals, or nil where it fails.
var narrowings = []struct {
	reading
	x, want []impl.Interval
}{
	{read(rows([]int{1, 1, 0}, []int{0, 1, 1}, []int{1, 0, 0}), 3, span(10, 12), span(20, 21), span(3, 4)), all(3), spans(span(3, 4), span(0, 12), span(8, 21))},
	// no rows
	{read(nil, 1), all(1), all(1)},
	{read(nil, 3), spans(span(0, 0), span(5, 9), span(maxStamp, maxStamp)), spans(span(0, 0), span(5, 9), span(maxStamp, maxStamp))},
	// a row without links narrows nothing, whatever its interval is
	{read(rows([]int{0}), 1, span(0, 0)), all(1), all(1)},
	{read(rows([]int{0}), 1, span(0, 9)), spans(span(10, 20)), spans(span(10, 20))},
	{read(rows([]int{0}), 1, span(3, 9)), all(1), all(1)},
	{read(rows([]int{0, 0}), 2, span(maxStamp, maxStamp)), spans(span(0, 0), span(5, 9)), spans(span(0, 0), span(5, 9))},
	{read(rows([]int{1, 0}, []int{0, 0}, []int{0, 1}), 2, span(3, 4), span(7, 8), span(5, 6)), all(2), spans(span(3, 4), span(5, 6))},
	// one link
	{read(rows([]int{1}), 1, span(3, 8)), all(1), spans(span(3, 8))},
	{read(rows([]int{1}), 1, span(3, 8)), spans(span(0, 5)), spans(span(3, 5))},
	{read(rows([]int{1}), 1, span(3, 8)), spans(span(5, 9)), spans(span(5, 8))},
	{read(rows([]int{1}), 1, span(3, 8)), spans(span(5, 6)), spans(span(5, 6))},
	{read(rows([]int{1}), 1, span(3, 8)), spans(span(8, 9)), spans(span(8, 8))},
	{read(rows([]int{1}), 1, span(3, 8)), spans(span(0, 3)), spans(span(3, 3))},
	{read(rows([]int{1}), 1, span(3, 8)), spans(span(9, 10)), nil},
	{read(rows([]int{1}), 1, span(3, 8)), spans(span(0, 2)), nil},
	{read(rows([]int{1}), 1, span(0, 0)), all(1), spans(span(0, 0))},
	{read(rows([]int{1}), 1, span(maxStamp, maxStamp)), all(1), spans(span(maxStamp, maxStamp))},
	{read(rows([]int{0, 1, 0}), 3, span(3, 8)), all(3), spans(span(0, maxStamp), span(3, 8), span(0, maxStamp))},
	// all links
	{read(rows(ones(2)), 2, span(10, 12)), all(2), spans(span(0, 12), span(0, 12))},
	{read(rows(ones(2)), 2, span(10, 12)), spans(span(0, 4), span(0, 9)), spans(span(1, 4), span(6, 9))},
	{read(rows(ones(3)), 3, span(10, 12)), spans(span(0, 2), span(0, 3), span(0, maxStamp)), spans(span(0, 2), span(0, 3), span(5, 12))},
	{read(rows(ones(3)), 3, span(10, 12)), spans(span(4, 9), span(5, 9), span(0, maxStamp)), spans(span(4, 7), span(5, 8), span(0, 3))},
	{read(rows(ones(maxCols)), maxCols, span(0, 0)), all(maxCols), slices.Repeat(spans(span(0, 0)), maxCols)},
	{read(rows(ones(maxCols)), maxCols, span(maxStamp, maxStamp)), all(maxCols), all(maxCols)},
	{read(rows(ones(maxCols)), maxCols, span(99999, maxStamp)), slices.Repeat(spans(span(0, 17000)), maxCols), slices.Repeat(spans(span(14999, 17000)), maxCols)},
	{read(rows(ones(maxCols)), maxCols, span(0, 60)), slices.Repeat(spans(span(9, maxStamp)), maxCols), slices.Repeat(spans(span(9, 15)), maxCols)},
	// a later row uses what an earlier one narrowed, but not the other way round
	{read(rows([]int{1, 0}, []int{1, 1}), 2, span(3, 4), span(10, 12)), all(2), spans(span(3, 4), span(6, 9))},
	{read(rows([]int{1, 1}, []int{1, 0}), 2, span(10, 12), span(3, 4)), all(2), spans(span(3, 4), span(0, 12))},
	{read(rows([]int{0, 0, 1}, []int{0, 1, 1}, []int{1, 1, 0}), 3, span(3, 3), span(10, 10), span(9, 9)), all(3), spans(span(2, 2), span(7, 7), span(3, 3))},
	{read(rows([]int{1, 1}, []int{0, 0}, []int{0, 1}, []int{1, 1}), 2, span(5, 20), span(1, 1), span(2, 2), span(5, 20)), all(2), spans(span(3, 18), span(2, 2))},
	// a later link of a row when an earlier one has become less
	{read(rows([]int{1, 1}), 2, span(10, 12)), spans(span(0, 100), span(4, 7)), spans(span(3, 8), span(4, 7))},
	{read(rows([]int{1, 1}), 2, span(10, 10)), spans(span(2, 50), span(3, 60)), spans(span(2, 7), span(3, 8))},
	{read(rows([]int{1, 1, 1}), 3, span(10, 12)), spans(span(0, 100), span(0, 100), span(1, 2)), spans(span(0, 11), span(0, 11), span(1, 2))},
	// nothing changes
	{read(rows([]int{1, 1}), 2, span(0, maxStamp)), all(2), all(2)},
	{read(rows([]int{1, 1}), 2, span(3, 9)), spans(span(1, 4), span(2, 5)), spans(span(1, 4), span(2, 5))},
	{read(rows([]int{1, 1}), 2, span(5, 5)), spans(span(0, 5), span(0, 5)), spans(span(0, 5), span(0, 5))},
	{read(rows([]int{1, 0}, []int{1, 1}), 2, span(3, 4), span(10, 12)), spans(span(3, 4), span(6, 9)), spans(span(3, 4), span(6, 9))},
	// one number is left, or none: the others are too great, or too little
	{read(rows([]int{1, 1}), 2, span(0, 4)), spans(span(2, 9), span(2, 9)), spans(span(2, 2), span(2, 2))},
	{read(rows([]int{1, 1}), 2, span(0, 3)), spans(span(2, 9), span(2, 9)), nil},
	{read(rows([]int{1, 1}), 2, span(8, 20)), spans(span(0, 4), span(0, 4)), spans(span(4, 4), span(4, 4))},
	{read(rows([]int{1, 1}), 2, span(9, 20)), spans(span(0, 4), span(0, 4)), nil},
	{read(rows([]int{1, 1}), 2, span(0, 9)), spans(span(maxStamp, maxStamp), span(0, 4)), nil},
	{read(rows([]int{1, 1}), 2, span(0, maxStamp)), spans(span(maxStamp, maxStamp), span(maxStamp, maxStamp)), nil},
	{read(rows([]int{1, 1, 1}), 3, span(maxStamp, maxStamp)), spans(span(0, 0), span(0, 0), span(0, maxStamp-1)), nil},
	// an interval becomes empty at the first, a middle and the last row
	{read(rows([]int{1, 0}, []int{0, 1}, []int{1, 1}), 2, span(6, 9), span(0, 9), span(0, 9)), spans(span(0, 5), span(0, 5)), nil},
	{read(rows([]int{1, 0}, []int{0, 1}, []int{1, 1}), 2, span(0, 9), span(6, 9), span(0, 9)), spans(span(0, 5), span(0, 5)), nil},
	{read(rows([]int{1, 0}, []int{0, 1}, []int{1, 1}), 2, span(0, 9), span(0, 9), span(11, 12)), spans(span(0, 5), span(0, 5)), nil},
	{read(rows([]int{1, 0}, []int{0, 1}, []int{1, 1}), 2, span(0, 3), span(0, 3), span(7, 9)), all(2), nil},
	{read(rows([]int{1}, []int{1}), 1, span(1, 2), span(4, 5)), all(1), nil},
	{read(rows([]int{1}, []int{1}), 1, span(4, 5), span(1, 2)), all(1), nil},
}

func TestNarrowOnce(t *testing.T) {
	for _, c := range narrowings {
		if got, ok := impl.NarrowOnce(c.m, c.l, c.x); !slices.Equal(got, c.want) || ok != (c.want != nil) {
			t.Errorf("NarrowOnce(%v, %v, %v) is %v, %t, not %v", c.m, c.l, c.x, got, ok, c.want)
		}
	}
}

func checkNarrowOnceFails(t *testing.T, s reading, x []impl.Interval) {
	t.Helper()
	if got, ok := impl.NarrowOnce(s.m, s.l, x); ok || len(got) != 0 {
		t.Errorf("NarrowOnce(%v, %v, %v) is %v, %t", s.m, s.l, x, got, ok)
	}
}

func TestNarrowOnceRejects(t *testing.T) {
	for _, s := range notReadings() {
		if s.cols >= 0 && s.cols <= maxCols+2 {
			checkNarrowOnceFails(t, s, all(s.cols))
		}
	}
	bad := append(badSpans(), span(-1, -1), span(-1, 0), span(-1, maxStamp), span(-maxStamp, maxStamp))
	for _, s := range readings {
		// another number of intervals than columns
		for _, count := range []int{0, s.cols - 1, s.cols + 1, maxCols + 1, 5000} {
			if len(s.m) > 0 || count == 0 || count > maxCols {
				checkNarrowOnceFails(t, s, all(count))
			}
		}
		checkNarrowOnceFails(t, s, nil)
		// an interval that is not valid, also of a link that no row has
		for place := range s.cols {
			for _, y := range bad {
				x := all(s.cols)
				x[place] = y
				checkNarrowOnceFails(t, s, x)
			}
		}
	}
}

// eachDelays calls a function with all lists of delays in the intervals.
func eachDelays(x []impl.Interval, call func(delays []int)) {
	delays := make([]int, len(x))
	var choose func(place int)
	choose = func(place int) {
		if place == len(x) {
			call(delays)
			return
		}
		for delays[place] = x[place].Lo; delays[place] <= x[place].Hi; delays[place]++ {
			choose(place + 1)
		}
	}
	choose(0)
}

// hullOf returns from where to where each delay goes among all lists of delays
// in x for which the row's sum lies in an interval; nil if there are none.
func hullOf(row []int, sum impl.Interval, x []impl.Interval) []impl.Interval {
	var hull []impl.Interval
	eachDelays(x, func(delays []int) {
		if !holds(sum, sumOf(row, delays)) {
			return
		}
		if hull == nil {
			hull = slices.Repeat(spans(span(maxStamp, 0)), len(x))
		}
		for i, n := range delays {
			hull[i] = span(min(hull[i].Lo, n), max(hull[i].Hi, n))
		}
	})
	return hull
}

// One row cuts off all that does not fit to it, and nothing else.
func TestNarrowOnceOfOneRowIsExact(t *testing.T) {
	random := reader{rand.New(rand.NewPCG(21, 958))}
	narrowed, empty := 0, 0
	for n := range 6000 {
		cols := 1 + n%4
		s := reading{sheet{random.rows(cols, 1), cols}, random.loose(1, 1+n%17)}
		x := random.loose(cols, 1+n%6)
		want := hullOf(s.m[0], s.l[0], x)
		if sumOf(s.m[0], ones(cols)) == 0 {
			want = x
		}
		got, ok := impl.NarrowOnce(s.m, s.l, x)
		if !slices.Equal(got, want) || ok != (want != nil) {
			t.Errorf("NarrowOnce(%v, %v, %v) is %v, %t, not %v", s.m, s.l, x, got, ok, want)
		}
		if !ok {
			empty++
		} else if !slices.Equal(got, x) {
			narrowed++
		}
	}
	if narrowed < 500 || empty < 500 {
		t.Errorf("of the rows %d narrow and %d leave nothing", narrowed, empty)
	}
}

// rowByRow is NarrowOnce of the single rows, one after the other.
func rowByRow(t *testing.T, s reading, x []impl.Interval) ([]impl.Interval, bool) {
	t.Helper()
	for i := range s.m {
		y, ok := impl.NarrowOnce(s.m[i:i+1], s.l[i:i+1], x)
		if !ok {
			return nil, false
		}
		x = y
	}
	return x, true
}

func TestNarrowOnceGoesRowByRow(t *testing.T) {
	random := reader{rand.New(rand.NewPCG(22, 958))}
	count, empty := 0, 0
	for _, s := range manyReadings(22) {
		for _, x := range [][]impl.Interval{all(s.cols), random.loose(s.cols, 5), random.loose(s.cols, maxStamp)} {
			want, wanted := rowByRow(t, s, x)
			got, ok := impl.NarrowOnce(s.m, s.l, x)
			if ok != wanted || !slices.Equal(got, want) {
				t.Errorf("NarrowOnce(%v, %v, %v) is %v, %t, not %v, %t", s.m, s.l, x, got, ok, want, wanted)
			}
			if count++; !ok {
				empty++
			}
		}
	}
	if empty < 500 || count-empty < 500 {
		t.Errorf("of %d readings %d leave nothing", count, empty)
	}
}

// ring is a reading whose first link takes one number more than the third one,
// but cannot take more than it. This is found only number by number.
func ring(sum int) reading {
	m := rows([]int{1, 1, 0, 0}, []int{0, 1, 1, 0}, []int{0, 0, 1, 1}, []int{1, 0, 0, 1})
	return read(m, 4, span(sum, sum), span(sum-1, sum-1), span(sum, sum), span(0, sum))
}

func TestNarrowAll(t *testing.T) {
	chain := rows([]int{0, 0, 1, 1}, []int{0, 1, 1, 0}, []int{1, 1, 0, 0}, []int{1, 0, 0, 0})
	cases := []struct {
		reading
		want []impl.Interval
	}{
		{read(rows([]int{1, 1, 0}, []int{0, 1, 1}, []int{1, 0, 0}), 3, span(10, 12), span(20, 21), span(3, 4)), spans(span(3, 4), span(6, 9), span(11, 15))},
		// nothing narrows
		{read(nil, 1), all(1)},
		{read(rows(), maxCols), all(maxCols)},
		{read(rows([]int{1, 1}), 2, span(0, maxStamp)), all(2)},
		{read(rows(ones(maxCols)), maxCols, span(maxStamp, maxStamp)), all(maxCols)},
		{read(rows([]int{0, 0}), 2, span(0, 0)), all(2)},
		{read(rows([]int{0, 0}, []int{0, 0}), 2, span(3, 9), span(maxStamp, maxStamp)), all(2)},
		// one pass is enough
		{read(rows([]int{1}), 1, span(3, 8)), spans(span(3, 8))},
		{read(rows([]int{1}, []int{1}, []int{1}), 1, span(3, 8), span(5, 12), span(0, 6)), spans(span(5, 6))},
		{read(rows([]int{1, 0}, []int{1, 1}), 2, span(3, 4), span(10, 12)), spans(span(3, 4), span(6, 9))},
		{read(rows([]int{1, 1}), 2, span(0, 7)), spans(span(0, 7), span(0, 7))},
		// several are needed: a later row narrows what an earlier one asks for
		{read(rows([]int{1, 1}, []int{1, 0}), 2, span(10, 12), span(3, 4)), spans(span(3, 4), span(6, 9))},
		{read(chain, 4, span(10, 10), span(9, 9), span(8, 8), span(3, 3)), spans(span(3, 3), span(5, 5), span(4, 4), span(6, 6))},
		{read(chain, 4, span(10, 11), span(10, 10), span(9, 12), span(3, 4)), spans(span(3, 4), span(5, 9), span(1, 5), span(5, 10))},
		// 20 are not enough: what is left then, though nothing would be in the end
		{ring(27), spans(span(7, 7), span(19, 20), span(6, 7), span(20, 20))},
		{ring(28), spans(span(7, 8), span(19, 21), span(6, 8), span(20, 21))},
		{ring(1000), spans(span(7, 980), span(19, 993), span(6, 980), span(20, 993))},
		{ring(maxStamp), spans(span(7, maxStamp-20), span(19, maxStamp-7), span(6, maxStamp-20), span(20, maxStamp-7))},
		// 20 are just enough to find that nothing is left
		{ring(26), nil},
		{ring(25), nil},
		{ring(1), nil},
		// rows that contradict each other
		{read(rows([]int{1}, []int{1}), 1, span(1, 2), span(4, 5)), nil},
		{read(rows([]int{1, 1}, []int{1, 0}), 2, span(0, 3), span(4, 5)), nil},
		{read(rows([]int{1, 1}, []int{1, 0}, []int{0, 1}), 2, span(9, 9), span(0, 4), span(0, 4)), nil},
		{read(chain, 4, span(10, 10), span(9, 9), span(3, 3), span(4, 4)), nil},
		// that do so, but not for any link alone
		{read(rows([]int{1, 1}, []int{1, 1}), 2, span(9, 9), span(3, 3)), nil},
		{read(rows([]int{1, 1, 0}, []int{0, 1, 1}, []int{1, 0, 1}), 3, span(5, 5), span(5, 5), span(5, 5)), spans(span(0, 5), span(0, 5), span(0, 5))},
		{read(rows([]int{1}, []int{0}), 1, span(3, 8), span(1, 1)), spans(span(3, 8))},
	}
	for _, c := range cases {
		if got, ok := impl.NarrowAll(c.m, c.l, c.cols); !slices.Equal(got, c.want) || ok != (c.want != nil) {
			t.Errorf("NarrowAll(%v, %v, %d) is %v, %t, not %v", c.m, c.l, c.cols, got, ok, c.want)
		}
	}
}

func TestNarrowAllRejectsWhatAreNoBounds(t *testing.T) {
	for _, s := range notReadings() {
		if got, ok := impl.NarrowAll(s.m, s.l, s.cols); ok || len(got) != 0 {
			t.Errorf("NarrowAll(%v, %v, %d) is %v, %t", s.m, s.l, s.cols, got, ok)
		}
	}
	for _, s := range readings {
		for _, cols := range append(notColumns, s.cols-1, s.cols+1) {
			if got, ok := impl.NarrowAll(s.m, s.l, cols); len(s.m) > 0 && (ok || len(got) != 0) {
				t.Errorf("NarrowAll(%v, %v, %d) is %v, %t", s.m, s.l, cols, got, ok)
			}
		}
	}
}

// passesOf performs NarrowOnce until nothing changes, but at most 20 times, and
// returns also how often it was performed.
func passesOf(s reading) ([]impl.Interval, int, bool) {
	x := impl.StartBounds(s.cols)
	for n := range 20 {
		y, ok := impl.NarrowOnce(s.m, s.l, x)
		if !ok || slices.Equal(x, y) {
			return y, n + 1, ok
		}
		x = y
	}
	return x, 20, true
}

func TestNarrowAllRepeatsNarrowOnce(t *testing.T) {
	l := manyReadings(23)
	for sum := 1; sum < 60; sum++ {
		l = append(l, ring(sum))
	}
	count := [21]int{}
	for _, s := range l {
		want, passes, wanted := passesOf(s)
		got, ok := impl.NarrowAll(s.m, s.l, s.cols)
		if ok != wanted || !slices.Equal(got, want) {
			t.Errorf("NarrowAll(%v, %v, %d) is %v, %t, not %v, %t", s.m, s.l, s.cols, got, ok, want, wanted)
		}
		count[passes]++
	}
	for passes, n := range count {
		if n == 0 && (passes == 20 || passes >= 1 && passes <= 5) {
			t.Errorf("no reading needs %d passes: %v", passes, count)
		}
	}
}

func TestAllowsDelays(t *testing.T) {
	three := read(rows([]int{1, 1, 0}, []int{0, 1, 1}, []int{1, 0, 0}), 3, span(10, 12), span(20, 21), span(3, 4))
	pair := read(rows([]int{1, 1}), 2, span(10, 12))
	wide := read(rows([]int{1, 1}), 2, span(0, maxStamp))
	cases := []struct {
		reading
		delays []int
		want   bool
	}{
		{three, []int{3, 8, 12}, true},
		{three, []int{4, 8, 13}, true},
		{three, []int{5, 6, 14}, false},
		{three, []int{3, 6, 14}, false},
		{three, []int{3, 8, 13}, true},
		{three, []int{3, 8, 11}, false},
		{three, []int{3, 8, 14}, false},
		// a delay at the ends of the range, and one beyond each
		{read(nil, 1), []int{0}, true},
		{read(nil, 1), []int{maxStamp}, true},
		{read(nil, 1), []int{-1}, false},
		{read(nil, 1), []int{maxStamp + 1}, false},
		{read(nil, 1), []int{math.MinInt}, false},
		{read(nil, 1), []int{math.MaxInt}, false},
		{read(nil, maxCols), []int{0, maxStamp, 5, maxStamp, 0, 1}, true},
		{read(nil, maxCols), []int{0, maxStamp, 5, maxStamp, 0, -1}, false},
		{read(nil, maxCols), []int{maxStamp + 1, 0, 5, maxStamp, 0, 1}, false},
		{read(rows([]int{1}), 1, span(0, 0)), []int{0}, true},
		{read(rows([]int{1}), 1, span(maxStamp, maxStamp)), []int{maxStamp}, true},
		{read(rows([]int{0}), 1, span(0, 0)), []int{maxStamp}, true},
		// a delay out of range although the sum is not, or no row has its link
		{pair, []int{-1, 12}, false},
		{pair, []int{12, -1}, false},
		{read(rows([]int{1, 1}), 2, span(0, maxStamp)), []int{maxStamp + 1, -1}, false},
		{read(rows([]int{1, 0}), 2, span(10, 12)), []int{11, -1}, false},
		{read(rows([]int{1, 0}), 2, span(10, 12)), []int{11, maxStamp + 1}, false},
		{read(rows([]int{1, 1}), 2, span(0, maxStamp)), []int{math.MinInt, math.MinInt}, false},
		{read(rows([]int{1, 1}), 2, span(0, maxStamp)), []int{math.MaxInt, math.MinInt}, false},
		// sums at both ends of their interval and one beyond each
		{pair, []int{4, 5}, false},
		{pair, []int{4, 6}, true},
		{pair, []int{5, 6}, true},
		{pair, []int{6, 6}, true},
		{pair, []int{7, 6}, false},
		{pair, []int{0, 12}, true},
		{pair, []int{0, 0}, false},
		{wide, []int{0, 0}, true},
		{wide, []int{maxStamp, 0}, true},
		{wide, []int{maxStamp / 2, maxStamp / 2}, true},
		{wide, []int{maxStamp/2 + 1, maxStamp / 2}, false},
		{wide, []int{maxStamp, maxStamp}, false},
		{read(rows(ones(maxCols)), maxCols, span(maxStamp, maxStamp)), slices.Repeat([]int{maxStamp}, maxCols), false},
		{read(rows([]int{1, 0}, []int{0, 1}), 2, span(1, 2), span(4, 5)), []int{2, 4}, true},
		{read(rows([]int{1, 0}, []int{0, 1}), 2, span(1, 2), span(4, 5)), []int{4, 2}, false},
		{read(rows([]int{1, 0}, []int{0, 1}), 2, span(1, 2), span(4, 5)), []int{2, 6}, false},
		{read(rows([]int{1, 0}, []int{0, 1}), 2, span(1, 2), span(4, 5)), []int{0, 4}, false},
		{read(rows([]int{1}, []int{1}), 1, span(1, 2), span(4, 5)), []int{2}, false},
		// a row without links has the sum 0, also among other rows
		{read(rows([]int{0, 0}), 2, span(0, 0)), []int{7, 9}, true},
		{read(rows([]int{0, 0}), 2, span(0, 5)), []int{7, 9}, true},
		{read(rows([]int{0, 0}), 2, span(1, 5)), []int{0, 0}, false},
		{read(rows([]int{0, 0}), 2, span(1, 5)), []int{1, 2}, false},
		{read(rows([]int{0, 0}), 2, span(maxStamp, maxStamp)), []int{maxStamp, 0}, false},
		{read(rows([]int{1, 1}, []int{0, 0}), 2, span(10, 12), span(0, 5)), []int{5, 6}, true},
		{read(rows([]int{1, 1}, []int{0, 0}), 2, span(10, 12), span(1, 5)), []int{5, 6}, false},
		// fewer or more delays than columns
		{pair, []int{11}, false},
		{pair, []int{5, 6, 0}, false},
		{pair, []int{}, false},
		{pair, nil, false},
		{read(nil, 1), nil, false},
		{read(nil, maxCols), make([]int, maxCols+1), false},
		{read(rows([]int{0}), 1, span(0, 0)), []int{0, 0}, false},
		{read(rows([]int{}), 0, span(0, 0)), []int{}, false},
	}
	for _, c := range cases {
		if got := impl.AllowsDelays(c.m, c.l, c.delays); got != c.want {
			t.Errorf("AllowsDelays(%v, %v, %v) is %t", c.m, c.l, c.delays, got)
		}
	}
	for _, s := range notReadings() {
		if s.cols >= 0 && s.cols <= maxCols+2 && impl.AllowsDelays(s.m, s.l, make([]int, s.cols)) {
			t.Errorf("AllowsDelays(%v, %v) accepts delays of 0", s.m, s.l)
		}
	}
}

// checkNotCutOff checks that NarrowAll keeps delays that are allowed, and that
// NarrowOnce keeps them if they lie in x.
func checkNotCutOff(t *testing.T, s reading, delays []int, x []impl.Interval) {
	t.Helper()
	whole, ok := impl.NarrowAll(s.m, s.l, s.cols)
	if !ok || !hold(whole, delays) {
		t.Errorf("NarrowAll(%v, %v, %d) is %v, %t, and cuts off %v", s.m, s.l, s.cols, whole, ok, delays)
	}
	// Only rows that contradict each other can need more than 20 passes: the
	// distance of each end from delays that are allowed is a sum of others, so
	// each pass settles the least one that is not settled yet.
	if again, also := impl.NarrowOnce(s.m, s.l, whole); ok && (!also || !slices.Equal(again, whole)) {
		t.Errorf("NarrowAll(%v, %v, %d) is %v, and then NarrowOnce %v", s.m, s.l, s.cols, whole, again)
	}
	if !hold(x, delays) {
		return
	}
	if once, ok := impl.NarrowOnce(s.m, s.l, x); !ok || !hold(once, delays) {
		t.Errorf("NarrowOnce(%v, %v, %v) is %v, %t, and cuts off %v", s.m, s.l, x, once, ok, delays)
	}
}

func TestAllowedDelaysAreNeverCutOff(t *testing.T) {
	random := reader{rand.New(rand.NewPCG(24, 958))}
	within := 0
	for n := range 3000 {
		cols := 1 + n%4
		s := random.around(random.delays(cols, 3), n%(maxRows+1), n%3)
		if n%2 == 0 {
			s.l = random.loose(len(s.m), 9)
		}
		x := random.loose(cols, 5)
		eachDelays(slices.Repeat(spans(span(0, 4)), cols), func(delays []int) {
			want := true
			for i, row := range s.m {
				want = want && holds(s.l[i], sumOf(row, delays))
			}
			if got := impl.AllowsDelays(s.m, s.l, delays); got != want {
				t.Errorf("AllowsDelays(%v, %v, %v) is %t", s.m, s.l, delays, got)
			}
			if want {
				checkNotCutOff(t, s, delays, x)
			}
			if want && hold(x, delays) {
				within++
			}
		})
	}
	if within < 1000 {
		t.Errorf("only %d lists of delays are allowed and lie in x", within)
	}
}

func TestTrueDelaysAreNeverCutOff(t *testing.T) {
	random := reader{rand.New(rand.NewPCG(25, 958))}
	for n := range 30000 {
		cols := 1 + n%maxCols
		delays := random.delays(cols, []int{0, 9, 300, maxStamp / 5, maxStamp}[n%5])
		room := []int{0, 1, 40, maxStamp}[n%4]
		s := random.around(delays, n%(maxRows+1), room)
		if !impl.AllowsDelays(s.m, s.l, delays) {
			t.Fatalf("AllowsDelays(%v, %v, %v) is false", s.m, s.l, delays)
		}
		x := make([]impl.Interval, cols)
		for i, delay := range delays {
			x[i] = random.near(delay, room)
		}
		checkNotCutOff(t, s, delays, x)
	}
}

func roomySpans(x []impl.Interval) ([]impl.Interval, func() bool) {
	whole := append(slices.Clone(x), slices.Repeat(spans(span(99, 99)), 16)...)
	before := slices.Clone(whole)
	return whole[:len(x)], func() bool { return slices.Equal(whole, before) }
}

// wipeSpans writes what is no interval, also to the spare room.
func wipeSpans(x []impl.Interval) {
	x = x[:cap(x)]
	for i := range x {
		x[i] = span(-7, -8)
	}
}

// boundFunctions call each function and write to what it returns.
var boundFunctions = []struct {
	name string
	call func(s reading, x []impl.Interval, delays []int)
}{
	{"AreBounds", func(s reading, x []impl.Interval, delays []int) { impl.AreBounds(s.m, s.l, s.cols) }},
	{"NarrowOnce", func(s reading, x []impl.Interval, delays []int) {
		y, _ := impl.NarrowOnce(s.m, s.l, x)
		wipeSpans(y)
	}},
	{"NarrowOnce of too few", func(s reading, x []impl.Interval, delays []int) {
		y, _ := impl.NarrowOnce(s.m, s.l, x[1:])
		wipeSpans(y)
	}},
	{"NarrowAll", func(s reading, x []impl.Interval, delays []int) {
		y, _ := impl.NarrowAll(s.m, s.l, s.cols)
		wipeSpans(y)
	}},
	{"NarrowAll beyond", func(s reading, x []impl.Interval, delays []int) {
		y, _ := impl.NarrowAll(s.m, s.l, 0)
		wipeSpans(y)
	}},
	{"AllowsDelays", func(s reading, x []impl.Interval, delays []int) { impl.AllowsDelays(s.m, s.l, delays) }},
}

func TestBoundFunctionsLeaveTheirArguments(t *testing.T) {
	random := reader{rand.New(rand.NewPCG(26, 958))}
	for _, given := range manyReadings(26) {
		// Spare room of the list of rows holds a row once more.
		m, isMatrixUnchanged := roomyRows(given.m)
		l := given.l
		if len(m) > len(l) {
			l = append(slices.Clone(l), l[0])
		}
		l, areSumsUnchanged := roomySpans(l)
		delays, areDelaysUnchanged := roomy(random.delays(given.cols, 5))
		for _, start := range [][]impl.Interval{all(given.cols), random.loose(given.cols, 9)} {
			x, areLinksUnchanged := roomySpans(start)
			for _, f := range boundFunctions {
				f.call(reading{sheet{m, given.cols}, l}, x, delays)
				if !isMatrixUnchanged() || !areSumsUnchanged() || !areDelaysUnchanged() || !areLinksUnchanged() {
					t.Fatalf("%s changes an argument: %v, %v or %v", f.name, given, start, delays)
				}
			}
		}
	}
}

func TestBoundsShareNoMemory(t *testing.T) {
	for cols := 1; cols <= maxCols; cols++ {
		wipeSpans(impl.StartBounds(cols))
		first, second := impl.StartBounds(cols), impl.StartBounds(cols)
		wipeSpans(first)
		if !slices.Equal(second, all(cols)) {
			t.Errorf("StartBounds(%d) shares memory or remembers it: %v", cols, second)
		}
	}
	for _, s := range manyReadings(27) {
		want, wanted := impl.NarrowAll(s.m, s.l, s.cols)
		other, _ := impl.NarrowAll(s.m, s.l, s.cols)
		once, _ := impl.NarrowOnce(s.m, s.l, all(s.cols))
		before := slices.Clone(once)
		wipeSpans(other)
		// What was passed in does not matter when the call has returned.
		m, l, x := cloneRows(s.m), slices.Clone(s.l), all(s.cols)
		got, ok := impl.NarrowAll(m, l, s.cols)
		narrowed, _ := impl.NarrowOnce(m, l, x)
		wipeRows(m)
		wipeSpans(l)
		wipeSpans(x)
		if ok != wanted || !slices.Equal(got, want) || !slices.Equal(once, before) || !slices.Equal(narrowed, before) {
			t.Fatalf("the results of %v share memory", s)
		}
	}
}

// The intervals of the rows and those of the links may be the same list.
func TestNarrowOnceOfOneList(t *testing.T) {
	random := reader{rand.New(rand.NewPCG(28, 958))}
	for n := range 3000 {
		cols := 1 + n%maxCols
		m, l := random.rows(cols, cols), random.loose(cols, []int{9, maxStamp}[n%2])
		want, wanted := impl.NarrowOnce(m, slices.Clone(l), slices.Clone(l))
		before := slices.Clone(l)
		if got, ok := impl.NarrowOnce(m, l, l); ok != wanted || !slices.Equal(got, want) || !slices.Equal(l, before) {
			t.Errorf("NarrowOnce(%v, %v) of the same list is %v, %t, not %v, %t", m, before, got, ok, want, wanted)
		}
	}
}
