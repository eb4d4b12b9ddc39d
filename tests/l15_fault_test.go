package tests

import (
	"math"
	"math/rand/v2"
	"slices"
	"testing"

	"loop.example/g00958/impl"
)

// A trial has the verdicts for the rows of a sheet.
type trial struct {
	sheet
	bad []bool
}

// verdicts returns so many, of which those at the given places are bad.
func verdicts(count int, bad ...int) []bool {
	l := make([]bool, count)
	for _, i := range bad {
		l[i] = true
	}
	return l
}

// A diagnosis is what is known of a trial.
type diagnosis struct {
	trial
	suspects []int
	smallest [][]int
}

func diagnose(m [][]int, cols int, bad []bool, suspects []int, smallest ...[]int) diagnosis {
	return diagnosis{trial{sheet{m, cols}, bad}, suspects, smallest}
}

// allBad returns so many verdicts, each of them bad.
func allBad(count int) []bool {
	return slices.Repeat([]bool{true}, count)
}

// singles returns a set for each column.
func singles(cols int) [][]int {
	l := [][]int{}
	for column := range cols {
		l = append(l, []int{column})
	}
	return l
}

// units returns the unit rows of all columns.
func units(cols int) [][]int {
	l := [][]int{}
	for column := range cols {
		l = append(l, unit(column, cols))
	}
	return l
}

var (
	// fence has three links that meet in pairs, and one beside them.
	fence = rows([]int{1, 1, 0, 0}, []int{1, 0, 1, 0}, []int{0, 1, 1, 0}, []int{0, 0, 1, 1})
	// trap has a link in most of its rows that is in no smallest set.
	trap = rows([]int{1, 1, 0}, []int{1, 1, 0}, []int{1, 0, 1}, []int{1, 0, 1}, []int{0, 1, 0}, []int{0, 0, 1})
)

var diagnoses = []diagnosis{
	// no rows: nothing failed
	diagnose(nil, 1, nil, nil, nil), diagnose(rows(), 3, []bool{}, nil, nil), diagnose(nil, 3, []bool{}, nil, nil), diagnose(rows(), maxCols, nil, nil, nil),
	// nothing failed
	diagnose(rows([]int{1}), 1, verdicts(1), nil, nil), diagnose(rows([]int{0}), 1, verdicts(1), nil, nil), diagnose(rows([]int{0, 0}, []int{1, 0}), 2, verdicts(2), nil, nil),
	diagnose(fence, 4, verdicts(4), nil, nil), diagnose(units(maxCols), maxCols, verdicts(maxCols), nil, nil), diagnose(slices.Repeat(rows(ones(maxCols)), maxRows), maxCols, verdicts(maxRows), nil, nil),
	// one link
	diagnose(rows([]int{1}), 1, allBad(1), []int{0}, []int{0}), diagnose(rows([]int{1, 0, 0}), 3, allBad(1), []int{0}, []int{0}), diagnose(rows([]int{0, 0, 1}), 3, allBad(1), []int{2}, []int{2}),
	diagnose(fence, 4, verdicts(4, 0, 2), []int{1}, []int{1}), diagnose(fence, 4, verdicts(4, 3), []int{3}, []int{3}), diagnose(fence, 4, verdicts(4, 0, 1), []int{0}, []int{0}), diagnose(fence, 4, verdicts(4, 1, 2, 3), []int{2, 3}, []int{2}),
	diagnose(units(maxCols), maxCols, verdicts(maxCols, 4), []int{4}, []int{4}), diagnose(chain, 3, verdicts(2, 0), []int{0}, []int{0}), diagnose(chain, 3, allBad(2), []int{0, 1, 2}, []int{1}),
	diagnose(rows([]int{1, 1}, []int{1, 0}), 2, verdicts(2, 0), []int{1}, []int{1}), diagnose(rows([]int{1, 1}, []int{1, 0}), 2, allBad(2), []int{0, 1}, []int{0}),
	// each of several links
	diagnose(rows([]int{1, 1}), 2, allBad(1), []int{0, 1}, []int{0}, []int{1}), diagnose(rows([]int{1, 0, 1}), 3, allBad(1), []int{0, 2}, []int{0}, []int{2}), diagnose(rows(ones(maxCols)), maxCols, allBad(1), countTo(maxCols), singles(maxCols)...),
	diagnose(rows([]int{1, 1, 1, 0}, []int{0, 1, 1, 1}), 4, allBad(2), []int{0, 1, 2, 3}, []int{1}, []int{2}), diagnose(slices.Repeat(rows([]int{1, 1, 0}), maxRows), 3, allBad(maxRows), []int{0, 1}, []int{0}, []int{1}),
	// several links
	diagnose(fence, 4, verdicts(4, 0, 1, 2), []int{0, 1}, []int{0, 1}), diagnose(units(3), 3, verdicts(3, 0, 2), []int{0, 2}, []int{0, 2}), diagnose(units(3), 3, allBad(3), []int{0, 1, 2}, []int{0, 1, 2}),
	diagnose(units(maxCols), maxCols, allBad(maxCols), countTo(maxCols), countTo(maxCols)), diagnose(units(maxCols), maxCols, verdicts(maxCols, 1, 2, 3, 4, 5), []int{1, 2, 3, 4, 5}, []int{1, 2, 3, 4, 5}), diagnose(trap, 3, allBad(6), []int{0, 1, 2}, []int{1, 2}),
	// several sets of several links
	diagnose(fence, 4, allBad(4), []int{0, 1, 2, 3}, []int{0, 2}, []int{1, 2}), diagnose(triangle, 3, allBad(3), []int{0, 1, 2}, []int{0, 1}, []int{0, 2}, []int{1, 2}),
	diagnose(rows([]int{1, 1, 0, 0}, []int{0, 0, 1, 1}), 4, allBad(2), []int{0, 1, 2, 3}, []int{0, 2}, []int{0, 3}, []int{1, 2}, []int{1, 3}),
	diagnose(rows([]int{1, 0, 0, 1}, []int{0, 1, 1, 0}), 4, allBad(2), []int{0, 1, 2, 3}, []int{0, 1}, []int{0, 2}, []int{1, 3}, []int{2, 3}),
	diagnose(rows([]int{1, 1, 0, 0, 0, 0}, []int{0, 0, 1, 1, 0, 0}, []int{0, 0, 0, 0, 1, 1}), maxCols, allBad(3), countTo(maxCols), []int{0, 2, 4}, []int{0, 2, 5}, []int{0, 3, 4}, []int{0, 3, 5}, []int{1, 2, 4}, []int{1, 2, 5}, []int{1, 3, 4}, []int{1, 3, 5}),
	diagnose(append(slices.Clone(fence), []int{0, 0, 1, 0}), 4, verdicts(5, 0, 1, 2, 3), []int{0, 1, 3}, []int{0, 1, 3}),
	// links that worked elsewhere, or that no row has, are in no set
	diagnose(rows([]int{1, 1, 1}, []int{0, 1, 0}), 3, verdicts(2, 0), []int{0, 2}, []int{0}, []int{2}), diagnose(rows([]int{1, 1, 0}, []int{0, 0, 0}), 3, verdicts(2, 0), []int{0, 1}, []int{0}, []int{1}), diagnose(rows([]int{0, 0, 0, 0, 1, 0}, []int{0, 0, 1, 0, 0, 0}), maxCols, verdicts(2, 1), []int{2}, []int{2}),
	// a failed row of zeros, which no set explains
	diagnose(rows([]int{0}), 1, allBad(1), nil), diagnose(rows(make([]int, maxCols)), maxCols, allBad(1), nil), diagnose(slices.Repeat(rows(make([]int, maxCols)), maxRows), maxCols, allBad(maxRows), nil),
	diagnose(rows([]int{1, 0}, []int{0, 0}), 2, allBad(2), []int{0}), diagnose(rows([]int{0, 0}, []int{1, 1}), 2, verdicts(2, 0), nil), diagnose(rows([]int{0, 0}, []int{1, 1}, []int{0, 0}), 2, verdicts(3, 1, 2), []int{0, 1}),
	// a failed row all of whose links worked elsewhere
	diagnose(fence, 4, verdicts(4, 0), nil), diagnose(fence, 4, verdicts(4, 0, 3), []int{3}), diagnose(rows([]int{1, 0, 0}, []int{1, 1, 0}), 3, verdicts(2, 0), nil), diagnose(rows([]int{1, 1, 1}, []int{1, 1, 0}, []int{0, 0, 1}), 3, verdicts(3, 0), nil),
	diagnose(rows([]int{1}, []int{1}), 1, verdicts(2, 0), nil), diagnose(rows([]int{1}, []int{1}), 1, verdicts(2, 1), nil), diagnose(slices.Repeat(rows([]int{1, 1, 0}), maxRows), 3, verdicts(maxRows, maxRows-1), nil), diagnose(append(units(maxCols), ones(maxCols)), maxCols, verdicts(maxCols+1, maxCols), nil),
	diagnose(rows([]int{1, 1, 0, 0}, []int{1, 1, 0, 0}, []int{0, 0, 1, 1}), 4, verdicts(3, 0, 2), []int{2, 3}),
}

// notTrials have no verdicts for a matrix of zeros and ones, each for one
// reason alone where that is possible.
func notTrials() []trial {
	l := []trial{}
	for _, s := range notSheets {
		l = append(l, trial{s, verdicts(len(s.m))}, trial{s, allBad(len(s.m))})
	}
	for _, cols := range notColumns {
		l = append(l, trial{sheet{nil, cols}, nil}, trial{sheet{rows(), cols}, []bool{}})
	}
	// an integer that is neither 0 nor 1
	for _, n := range []int{-1, 2, -2, -maxCell, maxCell, maxCell + 1, 3, 1 << 32, 1<<32 + 1, math.MinInt, math.MinInt + 1, math.MaxInt} {
		for _, m := range [][][]int{rows([]int{n}), rows([]int{n, 1, 0}), rows([]int{1, 0, n}), rows([]int{1, 0}, []int{0, n}), rows([]int{1, 0}, []int{n, 0}, []int{0, 1}), rows([]int{0, 0, 0, n, 0, 0})} {
			l = append(l, trial{sheet{m, len(m[0])}, verdicts(len(m))}, trial{sheet{m, len(m[0])}, allBad(len(m))})
		}
	}
	for _, d := range diagnoses {
		// too few and too many verdicts
		for count := range maxRows + 3 {
			if count != len(d.m) {
				l = append(l, trial{d.sheet, verdicts(count)}, trial{d.sheet, allBad(count)})
			}
		}
		l = append(l, trial{d.sheet, append(slices.Clone(d.bad), false)}, trial{d.sheet, append(slices.Clone(d.bad), true)})
		if len(d.m) > 0 {
			l = append(l, trial{d.sheet, nil}, trial{d.sheet, d.bad[1:]}, trial{d.sheet, d.bad[:len(d.bad)-1]})
		}
		// other columns, too many rows, and a row of another length
		for _, cols := range append([]int{d.cols - 1, d.cols + 1}, notColumns...) {
			if len(d.m) > 0 {
				l = append(l, trial{sheet{d.m, cols}, d.bad})
			}
		}
		for _, row := range rows(make([]int, d.cols+1), make([]int, d.cols-1), nil) {
			l = append(l, trial{sheet{append(slices.Clone(d.m), row), d.cols}, append(slices.Clone(d.bad), false)})
		}
		zeros := slices.Repeat(rows(make([]int, d.cols)), maxRows+1-len(d.m))
		l = append(l, trial{sheet{slices.Concat(d.m, zeros), d.cols}, append(slices.Clone(d.bad), verdicts(len(zeros))...)})
	}
	return l
}

// smallTrials returns all trials with at most three rows and columns.
func smallTrials() []trial {
	l := []trial{}
	for cols := 1; cols <= 3; cols++ {
		last := []trial{{sheet{nil, cols}, nil}}
		l = append(l, last...)
		for range 3 {
			longer := []trial{}
			for _, x := range last {
				for mask := range 1 << cols {
					row := []int{}
					for j := range cols {
						row = append(row, mask>>j&1)
					}
					for _, isBad := range []bool{false, true} {
						longer = append(longer, trial{sheet{append(slices.Clone(x.m), row), cols}, append(slices.Clone(x.bad), isBad)})
					}
				}
			}
			l, last = append(l, longer...), longer
		}
	}
	return l
}

// An outage is a trial of which it is known what is down.
type outage struct {
	trial
	down []int
}

// manyOutages returns trials of every size: with a single link in each row, and
// with few and with many.
func manyOutages(seed uint64) []outage {
	random := rand.New(rand.NewPCG(seed, 958))
	l := []outage{}
	for cols := 1; cols <= maxCols; cols++ {
		for count := 0; count <= maxRows; count++ {
			for n := range 30 {
				x := outage{trial: trial{sheet: sheet{cols: cols}}}
				for column := range cols {
					if random.IntN(4) <= n%4 {
						x.down = append(x.down, column)
					}
				}
				for range count {
					row := unit(random.IntN(cols), cols)
					for j := range row {
						if random.IntN(6) < n%3*2 {
							row[j] = 1 - row[j]
						}
					}
					x.m, x.bad = append(x.m, row), append(x.bad, crosses(row, x.down))
				}
				l = append(l, x)
			}
		}
	}
	return l
}

// manyTrials returns small ones, the table's, and outages with their verdicts,
// with one that is turned, and with such that were drawn by lot.
func manyTrials(seed uint64) []trial {
	random := rand.New(rand.NewPCG(seed, 958))
	l := smallTrials()
	for _, d := range diagnoses {
		l = append(l, d.trial)
	}
	for _, x := range manyOutages(seed) {
		l = append(l, x.trial)
		if len(x.m) == 0 {
			continue
		}
		turned, drawn := slices.Clone(x.bad), slices.Clone(x.bad)
		i := random.IntN(len(turned))
		turned[i] = !turned[i]
		for i := range drawn {
			drawn[i] = random.IntN(2) == 0
		}
		l = append(l, trial{x.sheet, turned}, trial{x.sheet, drawn})
	}
	return l
}

// crosses says the same as the document does of FailsWith.
func crosses(row []int, links []int) bool {
	for i, n := range row {
		if n == 1 && slices.Contains(links, i) {
			return true
		}
	}
	return false
}

func (x trial) isExplainedBy(links []int) bool {
	return slices.EqualFunc(x.m, x.bad, func(row []int, isBad bool) bool { return crosses(row, links) == isBad })
}

// suspectsOf returns the columns of which each row that has a 1 there failed,
// if there is such a row.
func (x trial) suspectsOf() []int {
	l := []int{}
	for column := range x.cols {
		failed, worked := 0, 0
		for i, row := range x.m {
			switch {
			case row[column] == 0:
			case x.bad[i]:
				failed++
			default:
				worked++
			}
		}
		if failed > 0 && worked == 0 {
			l = append(l, column)
		}
	}
	return l
}

// smallestOf tries all choices of columns, also such as work elsewhere.
func (x trial) smallestOf() [][]int {
	l := [][]int{}
	for _, set := range subsets(countTo(x.cols)) {
		if !x.isExplainedBy(set) {
			continue
		}
		if len(l) > 0 && len(set) < len(l[0]) {
			l = nil
		}
		if len(l) == 0 || len(set) == len(l[0]) {
			slices.Sort(set)
			l = append(l, set)
		}
	}
	slices.SortFunc(l, slices.Compare[[]int])
	return l
}

// combinations returns, in ascending order, the sets of so many columns from
// the first one on.
func combinations(first, cols, size int) [][]int {
	if size == 0 {
		return rows([]int{})
	}
	l := [][]int{}
	for column := first; column < cols; column++ {
		for _, others := range combinations(column+1, cols, size-1) {
			l = append(l, append([]int{column}, others...))
		}
	}
	return l
}

func TestAreVerdicts(t *testing.T) {
	for _, x := range append(manyTrials(57), trial{sheet{slices.Repeat(rows(ones(maxCols)), maxRows), maxCols}, verdicts(maxRows, 3)}) {
		if !impl.AreVerdicts(x.m, x.bad, x.cols) {
			t.Errorf("AreVerdicts is false: %v", x)
		}
	}
	for _, x := range notTrials() {
		if impl.AreVerdicts(x.m, x.bad, x.cols) {
			t.Errorf("AreVerdicts is true: %v", x)
		}
	}
}

func TestFailsWith(t *testing.T) {
	row := []int{0, 1, 0, 1, 1}
	cases := []struct {
		row, links []int
		want       bool
	}{
		// a 1 at one of the links
		{[]int{1}, []int{0}, true}, {row, []int{1}, true}, {row, []int{0, 1}, true}, {row, []int{1, 2}, true}, {row, []int{0, 2, 4}, true}, {[]int{1, 0, 0}, []int{0, 1, 2}, true}, {[]int{0, 0, 1}, []int{0, 1, 2}, true},
		// at several
		{row, []int{1, 3}, true}, {row, []int{1, 3, 4}, true}, {row, []int{0, 1, 2, 3, 4}, true}, {ones(maxCols), countTo(maxCols), true},
		// at none
		{[]int{0}, []int{0}, false}, {row, []int{0}, false}, {row, []int{2}, false}, {row, []int{0, 2}, false}, {make([]int, maxCols), countTo(maxCols), false},
		// links that are negative, or at and beyond the length
		{row, []int{-1}, false}, {row, []int{5}, false}, {row, []int{6}, false}, {row, []int{-1, 0, 2, 5}, false}, {row, []int{-5, -4, -2}, false}, {ones(3), []int{-1, 3, 4, 100}, false}, {ones(3), []int{math.MinInt, math.MaxInt}, false}, {ones(3), []int{1 << 32, 1<<32 + 1, -1 << 32}, false},
		{row, []int{-1, 1}, true}, {row, []int{5, 4}, true}, {row, []int{math.MinInt, 3, math.MaxInt}, true},
		// links in any order, and such that occur twice
		{row, []int{4, 2, 0}, true}, {row, []int{2, 0, 1}, true}, {row, []int{3, 3}, true}, {row, []int{2, 0, 2}, false}, {row, []int{0, 0, 4, 4}, true},
		// integers that are neither 0 nor 1
		{[]int{2}, []int{0}, false}, {[]int{-1}, []int{0}, false}, {[]int{-1, 2, -2, 3, 0}, []int{0, 1, 2, 3, 4}, false}, {[]int{2, 1, -1}, []int{0, 2}, false}, {[]int{2, 1, -1}, []int{0, 1, 2}, true}, {[]int{math.MinInt, math.MaxInt, 1 << 32, 1<<32 + 1, math.MinInt + 1}, []int{0, 1, 2, 3, 4}, false},
		// no links
		{row, nil, false}, {row, []int{}, false}, {ones(maxCols), nil, false},
		// an empty row
		{nil, nil, false}, {[]int{}, []int{}, false}, {nil, []int{0}, false}, {[]int{}, []int{0, 1}, false}, {[]int{}, []int{-1, 0}, false}, {nil, []int{math.MaxInt, math.MinInt}, false},
		// a row longer than that of a matrix
		{unit(20, 30), []int{3, 20}, true}, {unit(20, 30), []int{3, 21, 30}, false},
	}
	for _, c := range cases {
		if got := impl.FailsWith(c.row, c.links); got != c.want {
			t.Errorf("FailsWith(%v, %v) is %t", c.row, c.links, got)
		}
	}
}

// anyLinks returns a list of links in any order, of which some may be none.
func anyLinks(random *rand.Rand, cols int) []int {
	l := []int{}
	for range random.IntN(5) {
		if random.IntN(6) == 0 {
			l = append(l, countsAndIndices[random.IntN(len(countsAndIndices))])
		} else {
			l = append(l, random.IntN(cols+2)-1)
		}
	}
	return l
}

func TestFailsWithAnyRow(t *testing.T) {
	random := rand.New(rand.NewPCG(58, 958))
	integers := []int{0, 0, 0, 0, 1, 1, -1, 2, math.MinInt, 1<<32 + 1}
	count := map[bool]int{}
	for n := range 20000 {
		row := make([]int, n%12)
		for i := range row {
			row[i] = integers[random.IntN(len(integers))]
		}
		links := anyLinks(random, len(row))
		want := crosses(row, links)
		if got := impl.FailsWith(row, links); got != want {
			t.Errorf("FailsWith(%v, %v) is %t", row, links, got)
		}
		count[want]++
	}
	if count[false] < 5000 || count[true] < 3000 {
		t.Errorf("%d rows fail", count[true])
	}
}

func TestExplains(t *testing.T) {
	ragged := rows([]int{1}, []int{0, 0, 1, 1}, nil, []int{0, 1})
	strange := rows([]int{2, 1, -1}, []int{-1, 0, 2}, []int{math.MaxInt, math.MinInt, 1})
	cases := []struct {
		m     [][]int
		bad   []bool
		links []int
		want  bool
	}{
		// links that explain the verdicts, also with some that no row has
		{fence, verdicts(4, 0, 2), []int{1}, true}, {fence, verdicts(4, 0, 1, 2), []int{0, 1}, true}, {fence, allBad(4), []int{0, 2}, true}, {fence, allBad(4), []int{0, 1, 2, 3}, true}, {fence, verdicts(4), nil, true}, {fence, verdicts(4), []int{}, true}, {rows([]int{0, 1}), verdicts(1), []int{0}, true}, {rows([]int{0, 1, 0}), allBad(1), []int{0, 1, 2}, true},
		// one link too many
		{fence, verdicts(4, 0, 2), []int{1, 3}, false}, {fence, verdicts(4, 0, 2), []int{0, 1}, false}, {fence, verdicts(4), []int{3}, false}, {fence, verdicts(4, 0, 1, 2), []int{0, 1, 2}, false}, {units(3), verdicts(3, 0, 2), []int{0, 1, 2}, false},
		// one link too few
		{fence, allBad(4), []int{0}, false}, {fence, allBad(4), []int{2}, false}, {fence, verdicts(4, 3), nil, false}, {fence, verdicts(4, 0, 1, 2), []int{1}, false}, {units(3), verdicts(3, 0, 2), []int{0}, false}, {units(3), verdicts(3, 0, 2), []int{2}, false},
		// another link
		{fence, verdicts(4, 0, 2), []int{0}, false}, {units(3), verdicts(3, 0), []int{2}, false}, {units(3), verdicts(3, 2), []int{0}, false},
		// what nothing explains
		{fence, verdicts(4, 0), nil, false}, {fence, verdicts(4, 0), []int{0}, false}, {fence, verdicts(4, 0), []int{1}, false}, {rows([]int{0, 0}), allBad(1), []int{0, 1}, false}, {rows([]int{}), allBad(1), []int{0}, false}, {rows(nil), allBad(1), nil, false},
		// fewer and more verdicts than rows
		{fence, nil, nil, false}, {fence, verdicts(3), nil, false}, {fence, verdicts(5), nil, false}, {fence, allBad(3), []int{0, 2}, false}, {fence, allBad(5), []int{0, 2}, false}, {fence, verdicts(3, 0, 2), []int{1}, false}, {fence, verdicts(5, 0, 2), []int{1}, false}, {rows(nil), nil, nil, false}, {rows([]int{1}), []bool{}, []int{0}, false},
		{nil, verdicts(1), nil, false}, {nil, allBad(1), []int{0}, false}, {rows(), verdicts(1), []int{0}, false},
		// no rows and no verdicts
		{nil, nil, nil, true}, {rows(), []bool{}, []int{}, true}, {nil, nil, []int{1}, true}, {rows(), nil, []int{0, 1, 2, 3, 4, 5}, true}, {nil, []bool{}, []int{7, 7, -1, math.MaxInt, math.MinInt}, true},
		// rows of unequal length
		{ragged, verdicts(4, 0), []int{0}, true}, {ragged, verdicts(4, 1), []int{2}, true}, {ragged, verdicts(4, 1), []int{3}, true}, {ragged, verdicts(4, 3), []int{1}, true}, {ragged, verdicts(4, 0, 1, 3), []int{0, 1, 3}, true}, {ragged, verdicts(4, 0, 1), []int{0, 1, 3}, false}, {ragged, allBad(4), []int{0, 1, 2, 3}, false}, {ragged, verdicts(4), []int{4}, true}, {ragged, verdicts(4), nil, true},
		// links in another order, that occur twice, or that are no columns
		{fence, allBad(4), []int{2, 0}, true}, {fence, verdicts(4, 0, 1, 2), []int{1, 0}, true}, {fence, allBad(4), []int{3, 0}, false}, {fence, verdicts(4, 0, 2), []int{1, 1}, true}, {fence, allBad(4), []int{2, 0, 2, 0}, true}, {fence, allBad(4), []int{0, 0}, false},
		{fence, verdicts(4, 0, 2), []int{-1, 1}, true}, {fence, verdicts(4, 0, 2), []int{1, 4}, true}, {fence, verdicts(4, 0, 2), []int{math.MaxInt, 1, math.MinInt, 100}, true}, {fence, verdicts(4), []int{-1, 4, -4}, true}, {fence, verdicts(4, 3), []int{-1}, false}, {fence, allBad(4), []int{4, 5}, false},
		// integers that are neither 0 nor 1
		{strange, verdicts(3, 0), []int{1}, true}, {strange, verdicts(3, 2), []int{2}, true}, {strange, verdicts(3), []int{0}, true}, {strange, verdicts(3, 0, 2), []int{0, 1, 2}, true}, {strange, allBad(3), []int{0, 1, 2}, false}, {strange, verdicts(3, 0, 1), []int{0}, false},
		// more rows and columns than a matrix has
		{units(30), verdicts(30, 12, 29), []int{12, 29}, true}, {units(30), verdicts(30, 12, 29), []int{12, 28}, false},
	}
	for _, c := range cases {
		if got := impl.Explains(c.m, c.bad, c.links); got != c.want {
			t.Errorf("Explains(%v, %v, %v) is %t", c.m, c.bad, c.links, got)
		}
	}
}

func TestExplainsIsExact(t *testing.T) {
	random := rand.New(rand.NewPCG(59, 958))
	count := map[bool]int{}
	for _, x := range manyTrials(60) {
		for _, links := range append(subsets(countTo(x.cols)), anyLinks(random, x.cols), anyLinks(random, x.cols)) {
			want := x.isExplainedBy(links)
			if got := impl.Explains(x.m, x.bad, links); got != want {
				t.Errorf("Explains(%v, %v, %v) is %t", x.m, x.bad, links, got)
			}
			count[want]++
			for _, bad := range [][]bool{append(slices.Clone(x.bad), false), append(slices.Clone(x.bad), true), x.bad[:max(0, len(x.bad)-1)]} {
				if len(bad) != len(x.m) && impl.Explains(x.m, bad, links) {
					t.Errorf("Explains(%v, %v, %v) is true", x.m, bad, links)
				}
			}
		}
	}
	if count[false] < 10000 || count[true] < 5000 {
		t.Errorf("%d of %d lists of links explain verdicts", count[true], count[true]+count[false])
	}
}

// TestTheOtherVerdictIsNotExplained turns one verdict of each outage.
func TestTheOtherVerdictIsNotExplained(t *testing.T) {
	for _, x := range manyOutages(61) {
		if !impl.Explains(x.m, x.bad, x.down) {
			t.Errorf("%v do not explain %v of %v", x.down, x.bad, x.m)
		}
		for i := range x.bad {
			bad := slices.Clone(x.bad)
			bad[i] = !bad[i]
			if impl.Explains(x.m, bad, x.down) {
				t.Errorf("%v explain %v of %v", x.down, bad, x.m)
			}
		}
	}
}

func TestSuspects(t *testing.T) {
	for _, d := range diagnoses {
		if got := impl.Suspects(d.m, d.bad, d.cols); !slices.Equal(got, d.suspects) {
			t.Errorf("Suspects(%v, %v, %d) is %v, not %v", d.m, d.bad, d.cols, got, d.suspects)
		}
	}
}

func TestSuspectsOfAllTrials(t *testing.T) {
	count := map[int]int{}
	for _, x := range manyTrials(62) {
		got, want := impl.Suspects(x.m, x.bad, x.cols), x.suspectsOf()
		if !slices.Equal(got, want) {
			t.Errorf("Suspects(%v, %v, %d) is %v, not %v", x.m, x.bad, x.cols, got, want)
		}
		count[len(want)]++
	}
	for size := range maxCols + 1 {
		if count[size] < 40 {
			t.Errorf("only %d trials have %d suspects", count[size], size)
		}
	}
}

func TestSetsOf(t *testing.T) {
	cases := []struct {
		cols, size int
		want       [][]int
	}{
		// no columns, and one
		{0, 0, rows([]int{})}, {1, 0, rows([]int{})}, {1, 1, rows([]int{0})},
		// size 0 is one empty set, and size cols has all columns
		{2, 0, rows([]int{})}, {maxCols, 0, rows([]int{})}, {2, 2, rows([]int{0, 1})}, {maxCols, maxCols, rows([]int{0, 1, 2, 3, 4, 5})},
		// the first number that differs decides
		{2, 1, rows([]int{0}, []int{1})}, {3, 1, rows([]int{0}, []int{1}, []int{2})}, {3, 2, rows([]int{0, 1}, []int{0, 2}, []int{1, 2})},
		{4, 2, rows([]int{0, 1}, []int{0, 2}, []int{0, 3}, []int{1, 2}, []int{1, 3}, []int{2, 3})},
		{4, 3, rows([]int{0, 1, 2}, []int{0, 1, 3}, []int{0, 2, 3}, []int{1, 2, 3})},
		{5, 3, rows([]int{0, 1, 2}, []int{0, 1, 3}, []int{0, 1, 4}, []int{0, 2, 3}, []int{0, 2, 4}, []int{0, 3, 4}, []int{1, 2, 3}, []int{1, 2, 4}, []int{1, 3, 4}, []int{2, 3, 4})},
		{maxCols, 1, rows([]int{0}, []int{1}, []int{2}, []int{3}, []int{4}, []int{5})},
		{maxCols, 5, rows([]int{0, 1, 2, 3, 4}, []int{0, 1, 2, 3, 5}, []int{0, 1, 2, 4, 5}, []int{0, 1, 3, 4, 5}, []int{0, 2, 3, 4, 5}, []int{1, 2, 3, 4, 5})},
		// no such size
		{0, 1, nil}, {0, -1, nil}, {1, 2, nil}, {1, -1, nil}, {3, 4, nil}, {3, -1, nil}, {maxCols, maxCols + 1, nil}, {maxCols, -1, nil}, {2, -2, nil},
		// no such number of columns
		{-1, 0, nil}, {-1, -1, nil}, {-1, 1, nil}, {-2, -1, nil}, {maxCols + 1, 0, nil}, {maxCols + 1, 1, nil}, {maxCols + 1, maxCols + 1, nil}, {64, 0, nil}, {63, 1, nil}, {1 << 32, 0, nil}, {math.MaxInt, 0, nil}, {math.MinInt, 0, nil}, {math.MinInt, math.MinInt, nil},
	}
	for _, c := range cases {
		if got := impl.SetsOf(c.cols, c.size); !equalRows(got, c.want) {
			t.Errorf("SetsOf(%d, %d) is %v, not %v", c.cols, c.size, got, c.want)
		}
	}
}

func TestSetsOfAllNumbers(t *testing.T) {
	counts := slices.Clone(countsAndIndices)
	for n := -1; n <= maxCols+2; n++ {
		counts = append(counts, n)
	}
	for _, cols := range counts {
		total := 0
		for _, size := range counts {
			want := [][]int{}
			if 0 <= cols && cols <= maxCols && 0 <= size && size <= cols {
				want = combinations(0, cols, size)
			}
			if got := impl.SetsOf(cols, size); !equalRows(got, want) {
				t.Errorf("SetsOf(%d, %d) is %v, not %v", cols, size, got, want)
			}
		}
		for size := range maxCols + 2 {
			total += len(impl.SetsOf(cols, size))
		}
		if 0 <= cols && cols <= maxCols && total != 1<<cols {
			t.Errorf("there are %d sets of %d columns", total, cols)
		}
	}
}

func TestSetsOfAreInOrder(t *testing.T) {
	for cols := range maxCols + 1 {
		for size := range cols + 1 {
			sets := impl.SetsOf(cols, size)
			for i, set := range sets {
				if len(set) != size || !slices.IsSorted(set) || len(slices.Compact(slices.Clone(set))) != size || size > 0 && (set[0] < 0 || set[size-1] >= cols) {
					t.Errorf("SetsOf(%d, %d) has %v", cols, size, set)
				}
				if i > 0 && slices.Compare(sets[i-1], set) >= 0 {
					t.Errorf("SetsOf(%d, %d) has %v before %v", cols, size, sets[i-1], set)
				}
			}
		}
	}
}

func TestSmallestSets(t *testing.T) {
	for _, d := range diagnoses {
		if got := impl.SmallestSets(d.m, d.bad, d.cols); !equalRows(got, d.smallest) {
			t.Errorf("SmallestSets(%v, %v, %d) is %v, not %v", d.m, d.bad, d.cols, got, d.smallest)
		}
	}
}

func TestNothingIsDiagnosedOfWhatIsNoTrial(t *testing.T) {
	for _, x := range notTrials() {
		if got := impl.Suspects(x.m, x.bad, x.cols); len(got) != 0 {
			t.Errorf("Suspects(%v, %v, %d) is %v", x.m, x.bad, x.cols, got)
		}
		if got := impl.SmallestSets(x.m, x.bad, x.cols); len(got) != 0 {
			t.Errorf("SmallestSets(%v, %v, %d) is %v", x.m, x.bad, x.cols, got)
		}
	}
}

func TestSmallestSetsExplainWhatFailed(t *testing.T) {
	sizes, counts := map[int]int{}, map[int]int{}
	for _, x := range manyTrials(63) {
		got, want := impl.SmallestSets(x.m, x.bad, x.cols), x.smallestOf()
		if !equalRows(got, want) {
			t.Fatalf("SmallestSets(%v, %v, %d) is %v, not %v", x.m, x.bad, x.cols, got, want)
		}
		counts[min(len(got), 4)]++
		suspects := impl.Suspects(x.m, x.bad, x.cols)
		size := x.cols + 1
		for _, set := range got {
			size = len(set)
			if size != len(got[0]) || !impl.Explains(x.m, x.bad, set) || !x.isExplainedBy(set) {
				t.Errorf("SmallestSets(%v, %v, %d) has %v", x.m, x.bad, x.cols, set)
			}
			for _, link := range set {
				if !slices.Contains(suspects, link) {
					t.Errorf("SmallestSets(%v, %v, %d) has %v, but the suspects are %v", x.m, x.bad, x.cols, set, suspects)
				}
			}
		}
		for fewer := range size {
			for _, set := range impl.SetsOf(x.cols, fewer) {
				if impl.Explains(x.m, x.bad, set) {
					t.Errorf("SmallestSets(%v, %v, %d) is %v, but %v is less", x.m, x.bad, x.cols, got, set)
				}
			}
		}
		// If anything explains the verdicts, all suspects together do.
		if isExplained := x.isExplainedBy(suspects); isExplained != (len(got) > 0) {
			t.Errorf("SmallestSets(%v, %v, %d) is %v, and that %v explain is %t", x.m, x.bad, x.cols, got, suspects, isExplained)
		}
		if len(got) > 0 {
			sizes[size]++
		}
	}
	for size := range maxCols {
		if sizes[size] < 20 {
			t.Errorf("only %d smallest sets have %d links", sizes[size], size)
		}
	}
	for count := range 5 {
		if counts[count] < 100 {
			t.Errorf("only %d trials have %d smallest sets", counts[count], count)
		}
	}
}

// TestWhatIsDownIsNoLessThanTheSmallest knows what is down.
func TestWhatIsDownIsNoLessThanTheSmallest(t *testing.T) {
	found, missed := 0, 0
	for _, x := range manyOutages(64) {
		got := impl.SmallestSets(x.m, x.bad, x.cols)
		if len(got) == 0 || len(got[0]) > len(x.down) {
			t.Fatalf("%v are down, but SmallestSets(%v, %v, %d) is %v", x.down, x.m, x.bad, x.cols, got)
		}
		isFound := slices.ContainsFunc(got, func(set []int) bool { return slices.Equal(set, x.down) })
		if isFound != (len(got[0]) == len(x.down)) {
			t.Errorf("%v are down, and SmallestSets(%v, %v, %d) is %v", x.down, x.m, x.bad, x.cols, got)
		}
		if isFound {
			found++
		} else {
			missed++
		}
	}
	if found < 500 || missed < 500 {
		t.Errorf("what is down is found %d times and missed %d times", found, missed)
	}
}

// TestSmallestSetsDoNotDependOnTheOrder puts the rows the other way, and makes
// one row stand there twice.
func TestSmallestSetsDoNotDependOnTheOrder(t *testing.T) {
	for _, x := range manyTrials(65) {
		m, bad := slices.Clone(x.m), slices.Clone(x.bad)
		if len(m) > 0 && len(m) < maxRows {
			m, bad = append(m, m[0]), append(bad, bad[0])
		}
		slices.Reverse(m)
		slices.Reverse(bad)
		if a, b := impl.SmallestSets(x.m, x.bad, x.cols), impl.SmallestSets(m, bad, x.cols); !equalRows(a, b) {
			t.Errorf("SmallestSets(%v, %v, %d) is %v, but %v in another order", x.m, x.bad, x.cols, a, b)
		}
		if a, b := impl.Suspects(x.m, x.bad, x.cols), impl.Suspects(m, bad, x.cols); !slices.Equal(a, b) {
			t.Errorf("Suspects(%v, %v, %d) is %v, but %v in another order", x.m, x.bad, x.cols, a, b)
		}
	}
}

// roomyVerdicts returns a copy with spare room that holds the given verdict, and
// a function that reports whether all of it is as it was.
func roomyVerdicts(bad []bool, spare bool) ([]bool, func() bool) {
	whole := slices.Concat(bad, slices.Repeat([]bool{spare}, 16))
	before := slices.Clone(whole)
	return whole[:len(bad)], func() bool { return slices.Equal(whole, before) }
}

func wipeVerdicts(bad []bool) {
	for i := range bad {
		bad[i] = !bad[i]
	}
}

// faultFunctions call each function and write to what it returns.
var faultFunctions = []struct {
	name string
	call func(x trial, links []int)
}{
	{"AreVerdicts", func(x trial, links []int) { impl.AreVerdicts(x.m, x.bad, x.cols) }},
	{"FailsWith", func(x trial, links []int) {
		for _, row := range x.m {
			impl.FailsWith(row, links)
		}
	}},
	{"Explains", func(x trial, links []int) { impl.Explains(x.m, x.bad, links) }},
	{"Suspects", func(x trial, links []int) { wipe(impl.Suspects(x.m, x.bad, x.cols)) }},
	{"SetsOf", func(x trial, links []int) { wipeRows(impl.SetsOf(x.cols, len(links))) }},
	{"SmallestSets", func(x trial, links []int) { wipeRows(impl.SmallestSets(x.m, x.bad, x.cols)) }},
}

func TestFaultFunctionsLeaveTheirArguments(t *testing.T) {
	random := rand.New(rand.NewPCG(66, 958))
	for _, given := range manyTrials(67) {
		// In another order, and twice, links would show it if they were put
		// in order.
		links := append(anyLinks(random, given.cols), 2, 0, 2)
		given.checkCalls(t, links, false)
		given.checkCalls(t, links, true)
	}
}

func (x trial) checkCalls(t *testing.T, given []int, spare bool) {
	t.Helper()
	m, isMatrixUnchanged := roomyRows(x.m)
	bad := x.bad
	// Spare room of the list of rows holds a row once more.
	if len(m) > len(bad) {
		bad = append(slices.Clone(bad), bad[0])
	}
	bad, areVerdictsUnchanged := roomyVerdicts(bad, spare)
	links, areLinksUnchanged := roomy(given)
	for _, cols := range []int{x.cols, x.cols + 1, 0} {
		for _, f := range faultFunctions {
			f.call(trial{sheet{m, cols}, bad}, links)
			if !isMatrixUnchanged() || !areVerdictsUnchanged() || !areLinksUnchanged() {
				t.Fatalf("%s changes an argument: %v or %v", f.name, x, given)
			}
		}
	}
}

// listsOf returns all lists that are found, in one order.
func (x trial) listsOf() [][]int {
	l := append(rows(impl.Suspects(x.m, x.bad, x.cols)), impl.SmallestSets(x.m, x.bad, x.cols)...)
	for size := range x.cols + 1 {
		l = append(l, impl.SetsOf(x.cols, size)...)
	}
	return l
}

func TestDiagnosesShareNoMemory(t *testing.T) {
	for _, given := range manyTrials(68) {
		x := trial{sheet{cloneRows(given.m), given.cols}, slices.Clone(given.bad)}
		first, second := x.listsOf(), x.listsOf()
		want := cloneRows(second)
		for i, list := range first {
			wipe(list)
			if !equalRows(first[i+1:], want[i+1:]) {
				t.Fatalf("two lists found in %v share memory", given)
			}
		}
		// What was passed in does not matter when the call has returned.
		wipeRows(x.m)
		wipeVerdicts(x.bad)
		if !equalRows(second, want) || !equalRows(given.listsOf(), want) {
			t.Fatalf("the lists found in %v share memory", given)
		}
	}
}
