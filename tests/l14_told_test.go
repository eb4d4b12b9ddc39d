package tests

import (
	"math"
	"math/rand/v2"
	"slices"
	"testing"

	"loop.example/g00958/impl"
)

// unit returns a row of zeros with a 1 at one place, however long it is.
func unit(place, length int) []int {
	row := make([]int, length)
	row[place] = 1
	return row
}

// countsAndIndices are numbers in and around every range of links.
var countsAndIndices = []int{
	-2, -1, 0, 1, 2, 3, 4, maxCols - 1, maxCols, maxCols + 1, maxCols + 2, 100, -maxCols, -100,
	1 << 32, 1<<32 + 3, -1 << 32, math.MinInt, math.MinInt + 1, math.MinInt + 3, math.MaxInt - 1, math.MaxInt,
}

func TestUnitRow(t *testing.T) {
	cases := []struct {
		link, links int
		want        []int
	}{
		{0, 1, []int{1}},
		{0, 2, []int{1, 0}},
		{1, 2, []int{0, 1}},
		{1, 3, []int{0, 1, 0}},
		{0, maxCols, []int{1, 0, 0, 0, 0, 0}},
		{3, maxCols, []int{0, 0, 0, 1, 0, 0}},
		{maxCols - 1, maxCols, []int{0, 0, 0, 0, 0, 1}},
		// no such index
		{-1, 1, nil}, {1, 1, nil}, {-1, 3, nil}, {3, 3, nil}, {4, 3, nil}, {-1, maxCols, nil}, {maxCols, maxCols, nil},
		// no such number of links
		{0, 0, nil}, {-1, 0, nil}, {0, -1, nil}, {-1, -1, nil}, {-2, -1, nil}, {0, maxCols + 1, nil}, {3, maxCols + 1, nil}, {maxCols, maxCols + 1, nil},
		{0, math.MinInt, nil}, {0, math.MaxInt, nil}, {math.MaxInt - 1, math.MaxInt, nil}, {math.MinInt, math.MinInt, nil},
	}
	for _, c := range cases {
		if got := impl.UnitRow(c.link, c.links); !slices.Equal(got, c.want) {
			t.Errorf("UnitRow(%d, %d) is %v, not %v", c.link, c.links, got, c.want)
		}
	}
}

func TestUnitRowOfAllNumbers(t *testing.T) {
	for _, links := range countsAndIndices {
		for _, link := range countsAndIndices {
			want := []int{}
			if 1 <= links && links <= maxCols && 0 <= link && link < links {
				want = unit(link, links)
			}
			if got := impl.UnitRow(link, links); !slices.Equal(got, want) {
				t.Errorf("UnitRow(%d, %d) is %v, not %v", link, links, got, want)
			}
		}
	}
}

// A finding is what is known of a matrix.
type finding struct {
	sheet
	told    []int
	useful  []int
	missing int
}

func find(m [][]int, cols int, told, useful []int, missing int) finding {
	return finding{sheet{m, cols}, told, useful, missing}
}

var (
	triangle = rows([]int{1, 1, 0}, []int{1, 0, 1}, []int{0, 1, 1})
	corner   = rows([]int{1, 1, 0, 0}, []int{1, 0, 1, 0}, []int{0, 1, 1, 0})
	chain    = rows([]int{1, 1, 0}, []int{0, 1, 1})
)

var findings = []finding{
	// no rows
	find(nil, 1, nil, nil, 1), find(rows(), 1, nil, nil, 1), find(nil, 3, nil, nil, 3), find(rows(), maxCols, nil, nil, maxCols), find(nil, maxCols, nil, nil, maxCols),
	// rows of zeros
	find(rows([]int{0}), 1, nil, nil, 1), find(rows([]int{0, 0, 0}, []int{0, 0, 0}), 3, nil, nil, 3), find(slices.Repeat(rows(make([]int, maxCols)), maxRows), maxCols, nil, nil, maxCols),
	find(rows([]int{0, 0}, []int{0, 1}, []int{0, 0}, []int{1, 0}, []int{0, 0}), 2, []int{0, 1}, []int{1, 3}, 0),
	find(rows([]int{0, 0, 0}, []int{1, 1, 0}, []int{0, 0, 0}, []int{0, 0, 1}), 3, []int{2}, []int{1, 3}, 1),
	// one row with one link
	find(rows([]int{1}), 1, []int{0}, []int{0}, 0), find(rows([]int{1, 0, 0}), 3, []int{0}, []int{0}, 2), find(rows([]int{0, 1, 0}), 3, []int{1}, []int{0}, 2), find(rows([]int{0, 0, 1}), 3, []int{2}, []int{0}, 2),
	find(rows([]int{1, 0, 0, 0, 0, 0}), maxCols, []int{0}, []int{0}, 5), find(rows([]int{0, 0, 0, 0, 0, 1}), maxCols, []int{5}, []int{0}, 5),
	find(rows([]int{-1}), 1, []int{0}, []int{0}, 0), find(rows([]int{2}), 1, []int{0}, []int{0}, 0), find(rows([]int{0, -2, 0}), 3, []int{1}, []int{0}, 2), find(rows([]int{0, maxCell}), 2, []int{1}, []int{0}, 1), find(rows([]int{-maxCell, 0}), 2, []int{0}, []int{0}, 1),
	// one row with several links
	find(rows([]int{1, 1}), 2, nil, []int{0}, 1), find(rows([]int{1, 1, 1}), 3, nil, []int{0}, 2), find(rows([]int{1, 0, 1}), 3, nil, []int{0}, 2), find(rows([]int{0, 1, 1, 0}), 4, nil, []int{0}, 3), find(rows(ones(maxCols)), maxCols, nil, []int{0}, 5), find(rows([]int{1, 0, 0, 0, 0, 1}), maxCols, nil, []int{0}, 5),
	find(rows([]int{1, -1}), 2, nil, []int{0}, 1), find(rows([]int{-1, -1}), 2, nil, []int{0}, 1), find(rows([]int{2, 1}), 2, nil, []int{0}, 1), find(rows([]int{1, 2}), 2, nil, []int{0}, 1), find(rows([]int{2, 2}), 2, nil, []int{0}, 1),
	// by a difference
	find(rows([]int{1, 1}, []int{1, 0}), 2, []int{0, 1}, []int{0, 1}, 0), find(rows([]int{1, 1}, []int{0, 1}), 2, []int{0, 1}, []int{0, 1}, 0), find(rows([]int{1, 1, 1}, []int{0, 1, 1}), 3, []int{0}, []int{0, 1}, 1),
	find(rows([]int{1, 1, 1, 1, 1, 1}, []int{1, 1, 1, 0, 1, 1}), maxCols, []int{3}, []int{0, 1}, 4), find(rows([]int{2, 2, 1}, []int{2, 2, 0}), 3, []int{2}, []int{0, 1}, 1),
	// by a sum
	find(rows([]int{1, 1}, []int{1, -1}), 2, []int{0, 1}, []int{0, 1}, 0), find(rows([]int{1, 1, -1}, []int{-1, -1, 2}), 3, []int{2}, []int{0, 1}, 1),
	// by a combination with fractions
	find(triangle, 3, []int{0, 1, 2}, []int{0, 1, 2}, 0), find(corner, 4, []int{0, 1, 2}, []int{0, 1, 2}, 1), find(rows([]int{1, 2}, []int{2, 1}), 2, []int{0, 1}, []int{0, 1}, 0), find(rows([]int{2, 1}, []int{0, 2}), 2, []int{0, 1}, []int{0, 1}, 0),
	find(rows([]int{1, 2, 0}, []int{2, 1, 0}), 3, []int{0, 1}, []int{0, 1}, 1), find(rows([]int{2, 1, 1}, []int{1, 2, 2}), 3, []int{0}, []int{0, 1}, 1), find(rows([]int{0, 2, 0, 1, 1}, []int{0, -1, 0, 2, 2}), 5, []int{1}, []int{0, 1}, 3),
	// negative integers
	find(rows([]int{-1, -1, 0}, []int{0, 0, -2}), 3, []int{2}, []int{0, 1}, 1), find(rows([]int{1, -1, 0}, []int{0, 1, -1}), 3, nil, []int{0, 1}, 1), find(rows([]int{1, -1, 0}, []int{0, 1, -1}, []int{-1, 0, 1}), 3, nil, []int{0, 1}, 1),
	find(rows([]int{1, -1, 0}, []int{0, 1, -1}, []int{1, 0, 1}), 3, []int{0, 1, 2}, []int{0, 1, 2}, 0), find(rows([]int{-2, -1, -2}, []int{2, -1, 2}), 3, []int{1}, []int{0, 1}, 1),
	// the same row twice, also with another factor
	find(rows([]int{1, 1}, []int{1, 1}, []int{1, 1}), 2, nil, []int{0}, 1), find(rows([]int{0, 1}, []int{0, 1}), 2, []int{1}, []int{0}, 1), find(rows([]int{1, 0}, []int{0, 1}, []int{1, 0}, []int{0, 1}), 2, []int{0, 1}, []int{0, 1}, 0),
	find(rows([]int{1, 1}, []int{2, 2}, []int{-1, -1}), 2, nil, []int{0}, 1), find(rows([]int{-2, 0}, []int{1, 0}), 2, []int{0}, []int{0}, 1),
	// two links that always go together, and a third one beside them
	find(rows([]int{1, 1, 0}, []int{1, 1, 1}), 3, []int{2}, []int{0, 1}, 1), find(rows([]int{1, 0, 1}, []int{1, 1, 1}), 3, []int{1}, []int{0, 1}, 1), find(rows([]int{0, 1, 1}, []int{1, 0, 0}), 3, []int{0}, []int{0, 1}, 1), find(rows([]int{1, 1, 1}, []int{2, 2, 1}), 3, []int{2}, []int{0, 1}, 1),
	find(rows([]int{1, 1, 0}, []int{0, 0, 1}, []int{1, 1, 1}), 3, []int{2}, []int{0, 1}, 1),
	// a row that follows from two others only together
	find(chain, 3, nil, []int{0, 1}, 1), find(append(slices.Clone(chain), []int{1, 2, 1}), 3, nil, []int{0, 1}, 1), find(append(slices.Clone(chain), []int{1, 0, -1}), 3, nil, []int{0, 1}, 1), find(append(slices.Clone(chain), []int{1, 0, 1}), 3, []int{0, 1, 2}, []int{0, 1, 2}, 0),
	find(append(slices.Clone(corner), []int{1, -1, 0, 0}, []int{0, 0, 0, 1}), 4, []int{0, 1, 2, 3}, []int{0, 1, 2, 4}, 0), find(rows([]int{1, 2, 0}, []int{2, 1, 0}, []int{1, 1, 0}, []int{0, 1, 1}), 3, []int{0, 1, 2}, []int{0, 1, 3}, 0),
	// as many rows as there may be
	find(slices.Repeat(rows([]int{1, 1}), maxRows), 2, nil, []int{0}, 1), find(slices.Concat(slices.Repeat(rows([]int{1, 1}), maxRows-1), rows([]int{0, 1})), 2, []int{0, 1}, []int{0, 11}, 0),
	find(slices.Repeat(rows([]int{1, 0, 0, 0, 0, 0}, []int{0, 1, 0, 0, 0, 0}, []int{0, 0, 1, 0, 0, 0}, []int{0, 0, 0, 1, 0, 0}, []int{0, 0, 0, 0, 1, 0}, []int{0, 0, 0, 0, 0, 1}), 2), maxCols, countTo(maxCols), countTo(maxCols), 0),
	find(slices.Concat(slices.Repeat(rows(make([]int, maxCols)), maxRows-1), rows([]int{0, 0, 0, -2, 0, 0})), maxCols, []int{3}, []int{11}, 5),
}

func TestToldLinks(t *testing.T) {
	for _, f := range findings {
		if got := impl.ToldLinks(f.m, f.cols); !slices.Equal(got, f.told) {
			t.Errorf("ToldLinks(%v, %d) is %v, not %v", f.m, f.cols, got, f.told)
		}
	}
}

func TestUsefulRows(t *testing.T) {
	for _, f := range findings {
		if got := impl.UsefulRows(f.m, f.cols); !slices.Equal(got, f.useful) {
			t.Errorf("UsefulRows(%v, %d) is %v, not %v", f.m, f.cols, got, f.useful)
		}
	}
}

func TestMissingFor(t *testing.T) {
	for _, f := range findings {
		if got := impl.MissingFor(f.m, f.cols); got != f.missing {
			t.Errorf("MissingFor(%v, %d) is %d, not %d", f.m, f.cols, got, f.missing)
		}
	}
}

func TestNothingIsToldOfWhatIsNoMatrix(t *testing.T) {
	l := slices.Clone(notSheets)
	for _, f := range findings {
		for _, cols := range notColumns {
			l = append(l, sheet{f.m, cols})
		}
		if len(f.m) > 0 {
			l = append(l, sheet{f.m, f.cols - 1}, sheet{f.m, f.cols + 1})
		}
	}
	for _, s := range l {
		if got := impl.ToldLinks(s.m, s.cols); len(got) != 0 {
			t.Errorf("ToldLinks(%v, %d) is %v", s.m, s.cols, got)
		}
		if got := impl.UsefulRows(s.m, s.cols); len(got) != 0 {
			t.Errorf("UsefulRows(%v, %d) is %v", s.m, s.cols, got)
		}
		if got := impl.MissingFor(s.m, s.cols); got != -1 {
			t.Errorf("MissingFor(%v, %d) is %d", s.m, s.cols, got)
		}
	}
}

// toldOf knows from the ranks which links follow.
func (s sheet) toldOf() []int {
	told := []int{}
	for link := range s.cols {
		if isCombination(s.m, unit(link, s.cols)) {
			told = append(told, link)
		}
	}
	return told
}

func TestToldLinksAreExactlyThoseInTheSpan(t *testing.T) {
	count := map[int]int{}
	for _, s := range allSheets() {
		inSpan := []int{}
		for link := range s.cols {
			if impl.IsInSpan(s.m, impl.UnitRow(link, s.cols)) {
				inSpan = append(inSpan, link)
			}
		}
		got := impl.ToldLinks(s.m, s.cols)
		if !slices.Equal(got, inSpan) || !slices.Equal(got, s.toldOf()) {
			t.Errorf("ToldLinks(%v, %d) is %v, but %v follow, and %v are in the span", s.m, s.cols, got, s.toldOf(), inSpan)
		}
		if len(got) < s.cols {
			count[len(got)]++
		}
	}
	for told := range maxCols - 1 {
		if count[told] < 40 {
			t.Errorf("only %d matrices tell %d links, but not all", count[told], told)
		}
	}
}

// TestToldLinksDoNotDependOnTheOrder puts the rows and the columns the other
// way.
func TestToldLinksDoNotDependOnTheOrder(t *testing.T) {
	for _, s := range allSheets() {
		want := impl.ToldLinks(s.m, s.cols)
		turned := cloneRows(s.m)
		slices.Reverse(turned)
		if got := impl.ToldLinks(turned, s.cols); !slices.Equal(got, want) {
			t.Errorf("ToldLinks(%v) is %v, but %v with the rows turned", s.m, want, got)
		}
		for _, row := range turned {
			slices.Reverse(row)
		}
		got := impl.ToldLinks(turned, s.cols)
		slices.Reverse(got)
		for i := range got {
			got[i] = s.cols - 1 - got[i]
		}
		if !slices.Equal(got, want) {
			t.Errorf("ToldLinks(%v) is %v, but %v with the columns turned", s.m, want, got)
		}
	}
}

func TestUsefulRowsRaiseTheRank(t *testing.T) {
	for _, s := range allSheets() {
		want := []int{}
		for i := range s.m {
			if exactRank(s.m[:i+1]) > exactRank(s.m[:i]) {
				want = append(want, i)
			}
		}
		got := impl.UsefulRows(s.m, s.cols)
		if !slices.Equal(got, want) || len(got) != impl.RankOf(s.m, s.cols) {
			t.Errorf("UsefulRows(%v) is %v, not %v, with the rank %d", s.m, got, want, impl.RankOf(s.m, s.cols))
		}
	}
}

func TestUsefulRowsTellAll(t *testing.T) {
	for _, s := range allSheets() {
		kept := [][]int{}
		for _, i := range impl.UsefulRows(s.m, s.cols) {
			kept = append(kept, s.m[i])
		}
		if !equalRows(impl.ReduceRows(kept, s.cols), impl.ReduceRows(s.m, s.cols)) || len(impl.UsefulRows(kept, s.cols)) != len(kept) {
			t.Errorf("UsefulRows(%v) are the rows %v", s.m, kept)
		}
	}
}

func TestMissingForIsExact(t *testing.T) {
	for _, s := range allSheets() {
		got := impl.MissingFor(s.m, s.cols)
		if got != s.cols-exactRank(s.m) {
			t.Errorf("MissingFor(%v, %d) is %d, the rank is %d", s.m, s.cols, got, exactRank(s.m))
		}
		if all := len(impl.ToldLinks(s.m, s.cols)) == s.cols; all != (got == 0) {
			t.Errorf("MissingFor(%v, %d) is %d, but that all links are told is %t", s.m, s.cols, got, all)
		}
	}
}

// TestSoManyRowsAreMissing adds the useful ones of the unit rows: all of them
// tell all links, and without one of them that is not so.
func TestSoManyRowsAreMissing(t *testing.T) {
	for _, s := range allSheets() {
		if len(s.m)+s.cols > maxRows {
			continue
		}
		more := slices.Clone(s.m)
		for link := range s.cols {
			more = append(more, unit(link, s.cols))
		}
		added := [][]int{}
		for _, i := range impl.UsefulRows(more, s.cols) {
			if i >= len(s.m) {
				added = append(added, more[i])
			}
		}
		if len(added) != impl.MissingFor(s.m, s.cols) || impl.MissingFor(slices.Concat(s.m, added), s.cols) != 0 {
			t.Errorf("MissingFor(%v, %d) is %d, not %d", s.m, s.cols, impl.MissingFor(s.m, s.cols), len(added))
		}
		for i := range added {
			fewer := slices.Concat(s.m, added[:i], added[i+1:])
			if len(impl.ToldLinks(fewer, s.cols)) == s.cols || impl.MissingFor(fewer, s.cols) != 1 {
				t.Errorf("%v tell all links, and %v are missing", fewer, impl.MissingFor(fewer, s.cols))
			}
		}
	}
}

func TestDelayOf(t *testing.T) {
	cases := []struct {
		measured
		link int
		want impl.Ratio
	}{
		{system(corner, 4, 8, 10, 12), 0, ratio(3, 1)},
		{system(corner, 4, 8, 10, 12), 1, ratio(5, 1)},
		{system(corner, 4, 8, 10, 12), 2, ratio(7, 1)},
		{system(rows([]int{1}), 1, 5), 0, ratio(5, 1)},
		{system(rows([]int{0, 0, 1}), 3, 9), 2, ratio(9, 1)},
		// by a difference, beside two links that always go together
		{system(rows([]int{1, 1, 0}, []int{1, 1, 1}), 3, 8, 11), 2, ratio(3, 1)},
		{system(rows([]int{0, 1, 1}, []int{1, 1, 1}), 3, 8, 11), 0, ratio(3, 1)},
		// fractions in lowest terms
		{system(triangle, 3, 8, 10, 13), 0, ratio(5, 2)},
		{system(triangle, 3, 8, 10, 13), 1, ratio(11, 2)},
		{system(triangle, 3, 8, 10, 13), 2, ratio(15, 2)},
		{system(rows([]int{2, 0}), 2, 5), 0, ratio(5, 2)},
		{system(rows([]int{0, 2}), 2, 6), 1, ratio(3, 1)},
		{system(rows([]int{1, 2}, []int{2, 1}), 2, 1, 0), 1, ratio(2, 3)},
		{system(rows([]int{1, 2}, []int{2, 1}), 2, 6, 0), 1, ratio(4, 1)},
		{system(rows([]int{1, 2, 0}, []int{2, 1, 0}), 3, 4, 0), 1, ratio(8, 3)},
		// negative values
		{system(triangle, 3, -8, -10, -12), 1, ratio(-5, 1)},
		{system(triangle, 3, -8, -10, -13), 1, ratio(-11, 2)},
		{system(rows([]int{1, 2}, []int{2, 1}), 2, 1, 0), 0, ratio(-1, 3)},
		{system(rows([]int{-2}), 1, 5), 0, ratio(-5, 2)},
		{system(rows([]int{-1, -1}, []int{0, -1}), 2, 7, 3), 0, ratio(-4, 1)},
		{system(rows([]int{1, 1, -1}, []int{-1, -1, 2}), 3, 4, -9), 2, ratio(-5, 1)},
		// zero, which is told as well
		{system(rows([]int{1}), 1, 0), 0, ratio(0, 1)},
		{system(rows([]int{-2, 0}), 2, 0), 0, ratio(0, 1)},
		{system(triangle, 3, 0, 0, 0), 2, ratio(0, 1)},
		{system(triangle, 3, 5, 5, 10), 0, ratio(0, 1)},
		{system(rows([]int{1, 1, 0}, []int{1, 1, 1}), 3, 8, 8), 2, ratio(0, 1)},
		// rows of zeros, equal rows and rows that follow
		{system(rows([]int{0, 0}, []int{0, 1}, []int{0, 0}), 2, 0, 3, 0), 1, ratio(3, 1)},
		{system(rows([]int{0, 1}, []int{0, 1}, []int{0, -2}), 2, 4, 4, -8), 1, ratio(4, 1)},
		{system(append(slices.Clone(triangle), []int{1, 1, 1}), 3, 8, 10, 12, 15), 2, ratio(7, 1)},
		// the limits
		{system(rows([]int{1}), 1, maxSum), 0, ratio(maxSum, 1)},
		{system(rows([]int{1, 0, 0, 0, 0, 0}), maxCols, -maxSum), 0, ratio(-maxSum, 1)},
		{system(rows([]int{0, 0, 0, 0, 0, 1}), maxCols, maxSum), 5, ratio(maxSum, 1)},
		{system(rows([]int{1, 1}, []int{1, -1}), 2, maxSum, -maxSum), 0, ratio(0, 1)},
		{system(slices.Concat(slices.Repeat(rows([]int{1, 1}), maxRows-1), rows([]int{0, 1})), 2, 7, 7, 7, 7, 7, 7, 7, 7, 7, 7, 7, 3), 0, ratio(4, 1)},
	}
	for _, c := range cases {
		if got, ok := impl.DelayOf(c.m, c.values, c.link, c.cols); got != c.want || !ok {
			t.Errorf("DelayOf link %d of %v is %v, %t, not %v", c.link, c.measured, got, ok, c.want)
		}
	}
}

// checkNoDelay wants the zero Ratio and false.
func checkNoDelay(t *testing.T, s measured, link int) {
	t.Helper()
	if got, ok := impl.DelayOf(s.m, s.values, link, s.cols); got != ratio(0, 0) || ok {
		t.Errorf("DelayOf link %d of %v is %v, %t", link, s, got, ok)
	}
}

func TestDelayOfWhatIsNotTold(t *testing.T) {
	cases := []struct {
		measured
		links []int
	}{
		{system(corner, 4, 8, 10, 12), []int{3}},
		{system(chain, 3, 3, 5), []int{0, 1, 2}},
		{system(rows([]int{1, 1}), 2, 8), []int{0, 1}},
		{system(rows([]int{1, 1}), 2, 0), []int{0, 1}},
		{system(rows([]int{1, -1, 0}, []int{0, 1, -1}), 3, 0, 0), []int{0, 1, 2}},
		{system(rows([]int{0, 1, 1}, []int{1, 0, 0}), 3, 8, 2), []int{1, 2}},
		{system(rows([]int{1, 1, 0}, []int{1, 1, 1}), 3, 8, 11), []int{0, 1}},
		// no rows, and rows of zeros
		{system(nil, 1), []int{0}}, {system(rows(), 2), []int{0, 1}}, {system(nil, maxCols), []int{0, 1, 2, 3, 4, 5}},
		{system(rows([]int{0}), 1, 0), []int{0}}, {system(rows([]int{0, 0}, []int{0, 0}), 2, 0, 0), []int{0, 1}}, {system(rows([]int{0, 0}, []int{0, 1}), 2, 0, 3), []int{0}},
	}
	for _, c := range cases {
		for _, link := range c.links {
			checkNoDelay(t, c.measured, link)
		}
	}
}

// TestDelayOfNoColumn asks of systems that tell all links, or some, or none.
func TestDelayOfNoColumn(t *testing.T) {
	for _, s := range solvableSystems {
		for _, link := range countsAndIndices {
			if link < 0 || link >= s.cols {
				checkNoDelay(t, s.measured, link)
			}
		}
	}
}

func TestDelayOfWhatIsNotSolvable(t *testing.T) {
	l := slices.Clone(unsolvableSystems)
	// other values than rows, values out of range, and what is no matrix
	l = append(l, notSystems()...)
	for _, s := range solvableSystems {
		fewer := s.measured
		if len(s.values) > 0 {
			fewer.values = s.values[1:]
			l = append(l, fewer, measured{s.sheet, nil}, measured{s.sheet, slices.Repeat([]int{maxSum + 1}, len(s.values))})
		}
		l = append(l, measured{s.sheet, append(slices.Clone(s.values), 0)})
		for _, cols := range notColumns {
			l = append(l, measured{sheet{s.m, cols}, s.values})
		}
		if len(s.m) > 0 {
			l = append(l, measured{sheet{s.m, s.cols - 1}, s.values}, measured{sheet{s.m, s.cols + 1}, s.values})
		}
	}
	for _, s := range l {
		for link := -1; link <= maxCols+1; link++ {
			checkNoDelay(t, s, link)
		}
	}
}

// manyMeasured returns each of the matrices with values that have a solution of
// whole numbers, with one of these values changed, or with any values.
func manyMeasured(seed uint64) []measured {
	random := rand.New(rand.NewPCG(seed, 958))
	l := []measured{}
	for _, s := range allSheets() {
		l = append(l, measured{s, valuesFor(s.m, s.cols, random)})
	}
	return l
}

func TestDelayOfIsTheValueOfItsUnitRow(t *testing.T) {
	for _, s := range slices.Concat(manyMeasured(50), unsolvableSystems, notSystems()) {
		for link := -1; link <= maxCols; link++ {
			want, wanted := impl.ValueOf(s.m, s.values, impl.UnitRow(link, s.cols))
			if got, ok := impl.DelayOf(s.m, s.values, link, s.cols); got != want || ok != wanted {
				t.Errorf("DelayOf link %d of %v is %v, %t, not %v, %t", link, s, got, ok, want, wanted)
			}
		}
	}
}

// TestExactlyWhatFollowsIsDetermined has, for each link of a solvable system,
// one delay in all solutions, or two solutions with different ones.
func TestExactlyWhatFollowsIsDetermined(t *testing.T) {
	random := rand.New(rand.NewPCG(51, 958))
	determined, fractions, open, unsolvable := 0, 0, 0, 0
	for _, s := range manyMeasured(52) {
		if !s.isSolvable() {
			unsolvable++
			for link := range s.cols {
				checkNoDelay(t, s, link)
			}
			continue
		}
		told := impl.ToldLinks(s.m, s.cols)
		if !slices.Equal(told, s.toldOf()) {
			t.Fatalf("ToldLinks of %v is %v, not %v", s, told, s.toldOf())
		}
		solutions := s.solutionsOf(random)
		for link := range s.cols {
			if !slices.Contains(told, link) {
				open++
				checkNoDelay(t, s, link)
				a, b, ok := impl.TwoSolutions(s.m, s.values, unit(link, s.cols))
				if !ok || !s.hasExactly(a) || !s.hasExactly(b) || a[link] == b[link] {
					t.Errorf("link %d of %v is not told, but the solutions are %v and %v", link, s, a, b)
				}
				continue
			}
			delay, ok := impl.DelayOf(s.m, s.values, link, s.cols)
			if !ok || !impl.IsRatio(delay) {
				t.Fatalf("link %d of %v is told, but DelayOf is %v, %t", link, s, delay, ok)
			}
			for _, x := range solutions {
				if !s.hasExactly(x) || x[link] != delay {
					t.Errorf("DelayOf link %d of %v is %v, but there is the solution %v", link, s, delay, x)
				}
			}
			determined++
			if delay.Den > 1 {
				fractions++
			}
		}
	}
	if determined < 1000 || fractions < 500 || open < 1000 || unsolvable < 500 {
		t.Errorf("only %d delays are determined, %d with fractions, %d are open, and %d systems are not solvable", determined, fractions, open, unsolvable)
	}
}

// TestDelaysOfGreatSystems has the rows and values for which the integers on
// the way are greatest.
func TestDelaysOfGreatSystems(t *testing.T) {
	random := rand.New(rand.NewPCG(53, 958))
	sign := func(n int) int { return n * (1 - 2*random.IntN(2)) }
	great := 0
	for range 2000 {
		s := measured{sheet: sheet{cols: maxCols}}
		for range maxCols {
			row := make([]int, maxCols)
			for j := range row {
				row[j] = sign(maxCell - random.IntN(8)/7)
			}
			s.m, s.values = append(s.m, row), append(s.values, sign(maxSum-random.IntN(2)))
		}
		if !slices.Equal(impl.ToldLinks(s.m, s.cols), s.toldOf()) {
			t.Errorf("ToldLinks(%v) is %v, not %v", s.m, impl.ToldLinks(s.m, s.cols), s.toldOf())
		}
		x, solvable := impl.SolutionOf(s.m, s.values, s.cols)
		for _, link := range s.toldOf() {
			got, ok := impl.DelayOf(s.m, s.values, link, s.cols)
			if ok != solvable || ok && got != x[link] {
				t.Errorf("DelayOf link %d of %v is %v, %t, not of %v", link, s, got, ok, x)
			}
			if max(got.Num, -got.Num) > 100*maxSum {
				great++
			}
		}
	}
	if great < 500 {
		t.Errorf("only %d delays have great numerators", great)
	}
}

func TestTwinsOf(t *testing.T) {
	some := rows([]int{1, 0, 1, 2, 1, 0}, []int{-1, 0, -1, -1, -1, 0}, []int{2, 1, 2, 2, 2, 1})
	cases := []struct {
		m    [][]int
		link int
		want []int
	}{
		// none, one and several
		{rows([]int{1, 0}), 0, nil}, {rows([]int{1, 0}), 1, nil}, {rows([]int{1}), 0, nil}, {rows([]int{1, -1}), 0, nil}, {triangle, 1, nil},
		{rows([]int{1, 1, 0}, []int{1, 1, 1}), 0, []int{1}}, {rows([]int{1, 1, 0}, []int{1, 1, 1}), 1, []int{0}}, {rows([]int{1, 1, 0}, []int{1, 1, 1}), 2, nil},
		{some, 0, []int{2, 4}}, {some, 2, []int{0, 4}}, {some, 4, []int{0, 2}}, {some, 1, []int{5}}, {some, 5, []int{1}}, {some, 3, nil},
		{rows(ones(maxCols)), 0, []int{1, 2, 3, 4, 5}}, {rows(ones(maxCols)), 3, []int{0, 1, 2, 4, 5}}, {rows(ones(maxCols)), 5, []int{0, 1, 2, 3, 4}},
		// columns that differ in one row alone, the first or the last
		{rows([]int{1, 0}, []int{1, 1}, []int{2, 2}), 0, nil}, {rows([]int{1, 1}, []int{2, 2}, []int{1, 0}), 1, nil}, {rows([]int{1, 1}, []int{2, 1}, []int{1, 1}), 0, nil},
		// columns with a common factor are no twins
		{rows([]int{1, 2, -1}, []int{1, 2, -1}), 0, nil},
		// columns of zeros
		{rows([]int{0, 1, 0}), 0, []int{2}}, {rows([]int{0, 1, 0}), 1, nil}, {rows([]int{0}), 0, nil}, {rows([]int{0, 0}, []int{0, 0}), 1, []int{0}}, {rows([]int{1, 0, 0}, []int{0, 0, 0}), 2, []int{1}},
		// no such column
		{rows([]int{1, 1}), -1, nil}, {rows([]int{1, 1}), 2, nil}, {rows([]int{1, 1}), 3, nil}, {rows([]int{0, 0, 0}), 3, nil}, {rows([]int{0, 0, 0}), -1, nil}, {some, maxCols, nil},
		{some, math.MaxInt, nil}, {some, math.MinInt, nil}, {rows([]int{}), 0, nil}, {rows([]int{}), -1, nil}, {rows(nil), 0, nil}, {rows(nil, nil), 0, nil},
		// no rows
		{nil, 0, nil}, {nil, -1, nil}, {nil, 1, nil}, {rows(), 0, nil}, {rows(), 5, nil},
		// rows of unequal length, also where both columns are there
		{rows([]int{1, 1}, []int{1}), 0, nil}, {rows([]int{1, 1}, []int{1, 1, 1}), 0, nil}, {rows([]int{1, 1, 1}, []int{1, 1}), 0, nil}, {rows([]int{1, 1}, []int{1, 1}, []int{1, 1, 0}), 1, nil}, {rows([]int{1, 1}, nil), 1, nil},
		{rows([]int{1}, []int{1, 1}), 0, nil}, {rows([]int{1}, []int{1, 1}), 1, nil}, {rows([]int{}, []int{1, 1}), 0, nil}, {rows(nil, []int{1, 1}), 1, nil}, {rows([]int{1, 1}, []int{1, 1, 1}, []int{1, 1}), 0, nil},
		// no matrix, but rows of one length
		{rows([]int{maxCell + 1, maxCell + 1, 1}), 0, []int{1}}, {rows([]int{math.MinInt, math.MaxInt, math.MinInt}, []int{-7, -7, -7}), 2, []int{0}}, {rows([]int{1, 1 + 1<<32}), 0, nil}, {rows([]int{math.MaxInt, -1}), 0, nil},
		{rows([]int{1, 1, 0, 1, 1, 1, 1, 0}), 7, []int{2}}, {rows([]int{1, 1, 0, 1, 1, 1, 1, 0}), 6, []int{0, 1, 3, 4, 5}}, {rows(make([]int, 9)), 9, nil},
		{slices.Repeat(rows([]int{1, 2, 1}), maxRows+1), 0, []int{2}}, {slices.Concat(slices.Repeat(rows([]int{1, 2, 1}), maxRows), rows([]int{1, 2, 0})), 0, nil},
	}
	for _, c := range cases {
		if got := impl.TwinsOf(c.m, c.link); !slices.Equal(got, c.want) {
			t.Errorf("TwinsOf(%v, %d) is %v, not %v", c.m, c.link, got, c.want)
		}
	}
}

// columnOf expects rows that have the column.
func columnOf(m [][]int, place int) []int {
	column := []int{}
	for _, row := range m {
		column = append(column, row[place])
	}
	return column
}

// checkTwins expects rows of one length.
func checkTwins(t *testing.T, m [][]int) int {
	t.Helper()
	count := 0
	for link := range m[0] {
		want := []int{}
		for other := range m[0] {
			if other != link && slices.Equal(columnOf(m, other), columnOf(m, link)) {
				want = append(want, other)
			}
		}
		if got := impl.TwinsOf(m, link); !slices.Equal(got, want) {
			t.Errorf("TwinsOf(%v, %d) is %v, not %v", m, link, got, want)
		}
		count += len(want)
	}
	for _, link := range []int{-1, len(m[0]), math.MinInt, math.MaxInt} {
		if got := impl.TwinsOf(m, link); len(got) != 0 {
			t.Errorf("TwinsOf(%v, %d) is %v", m, link, got)
		}
	}
	return count
}

func TestTwinsHaveEqualColumns(t *testing.T) {
	count := 0
	for _, s := range allSheets() {
		if len(s.m) > 0 {
			count += checkTwins(t, s.m)
		}
	}
	if count < 1000 {
		t.Errorf("only %d twins", count)
	}
}

// TestTwinsBeyondTheLimits has rows of any number, length and integers.
func TestTwinsBeyondTheLimits(t *testing.T) {
	random := rand.New(rand.NewPCG(54, 958))
	integers := []int{math.MinInt, math.MaxInt, 0, maxCell + 1, 1 << 32}
	count := 0
	for n := range 300 {
		length, kinds := 1+random.IntN(40), 1+random.IntN(6)
		m := make([][]int, 1+n%30)
		for i := range m {
			kind := make([]int, kinds)
			for k := range kind {
				kind[k] = integers[random.IntN(len(integers))]
			}
			for j := range length {
				m[i] = append(m[i], kind[j*j%kinds])
			}
		}
		// One integer changes, so that some columns are nearly twins.
		m[random.IntN(len(m))][random.IntN(length)]++
		count += checkTwins(t, m)
	}
	if count < 1000 {
		t.Errorf("only %d twins", count)
	}
}

// TestTwinsOfUnequalRows makes one row longer or shorter.
func TestTwinsOfUnequalRows(t *testing.T) {
	for _, s := range allSheets() {
		for i := range s.m {
			if len(s.m) < 2 {
				continue
			}
			longer, shorter := slices.Clone(s.m), slices.Clone(s.m)
			longer[i], shorter[i] = append(slices.Clone(s.m[i]), 0), s.m[i][1:]
			for link := -1; link <= s.cols+1; link++ {
				if a, b := impl.TwinsOf(longer, link), impl.TwinsOf(shorter, link); len(a)+len(b) != 0 {
					t.Errorf("TwinsOf(%v, %d) is %v, and of %v it is %v", longer, link, a, shorter, b)
				}
			}
		}
	}
}

// TestTwinsAreNotTold also changes the delays of two twins by turns, which no
// sum shows.
func TestTwinsAreNotTold(t *testing.T) {
	count := 0
	for _, s := range allSheets() {
		for link := range s.cols {
			for _, twin := range impl.TwinsOf(s.m, link) {
				told := impl.ToldLinks(s.m, s.cols)
				if slices.Contains(told, link) || slices.Contains(told, twin) {
					t.Errorf("%d and %d always go together in %v, but %v are told", link, twin, s.m, told)
				}
				change := unit(link, s.cols)
				change[twin] = -1
				for _, row := range s.m {
					if impl.DotOf(row, change) != 0 {
						t.Errorf("TwinsOf(%v, %d) has %d, but row %v tells them apart", s.m, link, twin, row)
					}
				}
				count++
			}
		}
	}
	if count < 1000 {
		t.Errorf("only %d twins", count)
	}
}

// toldFunctions call each function and write to what it returns.
var toldFunctions = []struct {
	name string
	call func(s measured, link int)
}{
	{"UnitRow", func(s measured, link int) { wipe(impl.UnitRow(link, s.cols)) }},
	{"ToldLinks", func(s measured, link int) { wipe(impl.ToldLinks(s.m, s.cols)) }},
	{"DelayOf", func(s measured, link int) { impl.DelayOf(s.m, s.values, link, s.cols) }},
	{"TwinsOf", func(s measured, link int) { wipe(impl.TwinsOf(s.m, link)) }},
	{"UsefulRows", func(s measured, link int) { wipe(impl.UsefulRows(s.m, s.cols)) }},
	{"MissingFor", func(s measured, link int) { impl.MissingFor(s.m, s.cols) }},
}

func TestToldFunctionsLeaveTheirArguments(t *testing.T) {
	for _, given := range manyMeasured(55) {
		// Spare room of the list of rows holds a row once more.
		m, isMatrixUnchanged := roomyRows(given.m)
		values := given.values
		if len(m) > len(values) {
			values = append(slices.Clone(values), values[0])
		}
		values, areValuesUnchanged := roomy(values)
		for link := -1; link <= given.cols; link++ {
			for _, cols := range []int{given.cols, given.cols + 1, 0} {
				for _, f := range toldFunctions {
					f.call(measured{sheet{m, cols}, values}, link)
					if !isMatrixUnchanged() || !areValuesUnchanged() {
						t.Fatalf("%s changes an argument: %v", f.name, given)
					}
				}
			}
		}
	}
}

// listsOf returns all lists that are found, in one order.
func (s measured) listsOf() [][]int {
	l := rows(impl.ToldLinks(s.m, s.cols), impl.UsefulRows(s.m, s.cols))
	for link := range s.cols {
		l = append(l, impl.TwinsOf(s.m, link), impl.UnitRow(link, s.cols))
	}
	return l
}

func TestFindingsShareNoMemory(t *testing.T) {
	for _, given := range manyMeasured(56) {
		s := measured{sheet{cloneRows(given.m), given.cols}, slices.Clone(given.values)}
		first, second := s.listsOf(), s.listsOf()
		want := cloneRows(second)
		for i, list := range first {
			wipe(list)
			if !equalRows(first[i+1:], want[i+1:]) {
				t.Fatalf("two lists found in %v share memory", given)
			}
		}
		// What was passed in does not matter when the call has returned.
		wipeRows(s.m)
		wipe(s.values)
		if !equalRows(second, want) || !equalRows(given.listsOf(), want) {
			t.Fatalf("the lists found in %v share memory", given)
		}
	}
}
