package tests

import (
	"math"
	"math/big"
	"math/rand/v2"
	"slices"
	"testing"

	"loop.example/g00958/impl"
)

const (
	maxRows = impl.MaxRows
	maxCols = impl.MaxCols
	maxCell = impl.MaxCell
)

func rows(x ...[]int) [][]int {
	return x
}

// A sheet has rows and the number of columns for which they are taken.
type sheet struct {
	m    [][]int
	cols int
}

// notSheets are no matrices, each for one reason alone where that is possible.
var notSheets = []sheet{
	// columns out of range
	{nil, 0}, {nil, -1}, {nil, maxCols + 1}, {nil, math.MinInt}, {nil, math.MaxInt},
	{rows([]int{}), 0}, {rows(nil), 0}, {rows(make([]int, maxCols+1)), maxCols + 1},
	// rows that are too short, too long or nil
	{rows([]int{1, 0}), 3}, {rows([]int{1, 0}), 1}, {rows(nil), 1}, {rows([]int{}), 1}, {rows(make([]int, maxCols+1)), maxCols},
	{rows([]int{1, 0}, []int{1}), 2}, {rows([]int{1}, []int{1, 0}), 2}, {rows([]int{1, 0}, nil), 2}, {rows([]int{1, 0}, []int{0, 1, 0}), 2},
	// too many rows
	{slices.Repeat(rows([]int{1}), maxRows+1), 1}, {slices.Repeat(rows(make([]int, maxCols)), maxRows+1), maxCols}, {make([][]int, maxRows+1), 1},
	// integers out of range
	{rows([]int{maxCell + 1}), 1}, {rows([]int{-maxCell - 1}), 1}, {rows([]int{math.MaxInt}), 1}, {rows([]int{math.MinInt}), 1},
	{rows([]int{1, 0}, []int{0, maxCell + 1}), 2}, {rows([]int{1, -maxCell - 1}, []int{0, 1}), 2}, {rows([]int{0, 0, 0, 0, 0, maxCell + 1}), maxCols},
}

// sheets are matrices whose reduced rows are known.
var sheets = []struct {
	sheet
	reduced [][]int
}{
	// no rows, and rows of zeros
	{sheet{nil, 1}, nil},
	{sheet{rows(), maxCols}, nil},
	{sheet{rows([]int{0}), 1}, nil},
	{sheet{rows([]int{0, 0, 0}, []int{0, 0, 0}), 3}, nil},
	{sheet{slices.Repeat(rows(make([]int, maxCols)), maxRows), maxCols}, nil},
	{sheet{rows([]int{0, 0, 0}, []int{0, -2, 2}, []int{0, 0, 0}, []int{0, 1, -1}, []int{0, 0, 0}), 3}, rows([]int{0, 1, -1})},
	{sheet{rows([]int{0, 0}, []int{0, 1}, []int{0, 0}, []int{1, 0}, []int{0, 0}), 2}, rows([]int{1, 0}, []int{0, 1})},
	// a single row
	{sheet{rows([]int{1}), 1}, rows([]int{1})},
	{sheet{rows([]int{-2}), 1}, rows([]int{1})},
	{sheet{rows([]int{2, 1}), 2}, rows([]int{2, 1})},
	{sheet{rows([]int{-2, 1}), 2}, rows([]int{2, -1})},
	{sheet{rows([]int{0, -1, 2}), 3}, rows([]int{0, 1, -2})},
	{sheet{rows([]int{0, 0, -2}), 3}, rows([]int{0, 0, 1})},
	{sheet{rows([]int{2, 0, -2, 0, 2, 2}), maxCols}, rows([]int{1, 0, -1, 0, 1, 1})},
	// equal rows and multiples
	{sheet{rows([]int{1, -1, 0}, []int{1, -1, 0}, []int{1, -1, 0}), 3}, rows([]int{1, -1, 0})},
	{sheet{rows([]int{1, -1, 0}, []int{-2, 2, 0}, []int{-1, 1, 0}, []int{2, -2, 0}), 3}, rows([]int{1, -1, 0})},
	{sheet{rows([]int{2}, []int{-1}), 1}, rows([]int{1})},
	// rows in another order than their columns
	{sheet{rows([]int{0, 0, 2}, []int{0, -1, 0}, []int{-2, 0, 0}), 3}, rows([]int{1, 0, 0}, []int{0, 1, 0}, []int{0, 0, 1})},
	{sheet{rows([]int{1, 1, 0}, []int{0, 1, 1}), 3}, rows([]int{1, 0, -1}, []int{0, 1, 1})},
	{sheet{rows([]int{0, 1, 1}, []int{1, 1, 0}), 3}, rows([]int{1, 0, -1}, []int{0, 1, 1})},
	{sheet{rows([]int{1, 1, 0}, []int{1, 1, 1}), 3}, rows([]int{1, 1, 0}, []int{0, 0, 1})},
	// rows that begin with an integer greater than 1, which no other choice of rows avoids
	{sheet{rows([]int{1, 2, 1}, []int{2, 1, 0}), 3}, rows([]int{3, 0, -1}, []int{0, 3, 2})},
	{sheet{rows([]int{2, 0, 0, 1}, []int{0, 1, 2, 1}, []int{0, 2, 1, 0}), 4}, rows([]int{2, 0, 0, 1}, []int{0, 3, 0, -1}, []int{0, 0, 3, 2})},
	{sheet{rows([]int{2, 1}, []int{0, 2}), 2}, rows([]int{1, 0}, []int{0, 1})},
	// more rows than columns
	{sheet{rows([]int{1, 1}, []int{1, -1}, []int{2, 1}, []int{-2, -2}), 2}, rows([]int{1, 0}, []int{0, 1})},
	{sheet{rows([]int{1, 1, 0}, []int{0, 1, 1}, []int{1, 0, -1}, []int{1, 2, 1}, []int{2, 1, -1}), 3}, rows([]int{1, 0, -1}, []int{0, 1, 1})},
	{sheet{slices.Repeat(rows([]int{-1, 2}), maxRows), 2}, rows([]int{1, -2})},
}

// manySheets returns matrices of every size: with all integers, with few that
// are not 0, and with rows that repeat a few others and their multiples.
func manySheets() []sheet {
	random := rand.New(rand.NewPCG(5, 958))
	cell := func() int { return random.IntN(2*maxCell+1) - maxCell }
	l := []sheet{}
	for cols := 1; cols <= maxCols; cols++ {
		for count := 0; count <= maxRows; count++ {
			for range 12 {
				dense, sparse, poor := sheet{cols: cols}, sheet{cols: cols}, sheet{cols: cols}
				for i := range count {
					d, s, p := make([]int, cols), make([]int, cols), make([]int, cols)
					factor := cell()
					for j := range cols {
						d[j] = cell()
						if random.IntN(4) == 0 {
							s[j] = cell()
						}
						if p[j] = random.IntN(3) - 1; i > 2 {
							p[j] = factor * poor.m[i%3][j]
						}
					}
					dense.m, sparse.m, poor.m = append(dense.m, d), append(sparse.m, s), append(poor.m, p)
				}
				l = append(l, dense, sparse, poor)
			}
		}
	}
	return l
}

// sheetsOfTwoRows returns all matrices of two rows and two columns.
func sheetsOfTwoRows() []sheet {
	l := []sheet{}
	for n := range 625 {
		c := func(place int) int { return n/place%5 - maxCell }
		l = append(l, sheet{rows([]int{c(1), c(5)}, []int{c(25), c(125)}), 2})
	}
	return l
}

func allSheets() []sheet {
	l := slices.Concat(sheetsOfTwoRows(), manySheets())
	for _, s := range sheets {
		l = append(l, s.sheet)
	}
	return l
}

// exactRank eliminates with big fractions, and therefore without a limit to
// the numbers on the way.
func exactRank(m [][]int) int {
	left := make([][]*big.Rat, len(m))
	for i, row := range m {
		for _, n := range row {
			left[i] = append(left[i], big.NewRat(int64(n), 1))
		}
	}
	rank := 0
	for len(left) > 0 {
		first := left[0]
		left = left[1:]
		start := slices.IndexFunc(first, func(x *big.Rat) bool { return x.Sign() != 0 })
		if start < 0 {
			continue
		}
		rank++
		for _, row := range left {
			factor := new(big.Rat).Quo(row[start], first[start])
			for j := range row {
				row[j].Sub(row[j], new(big.Rat).Mul(factor, first[j]))
			}
		}
	}
	return rank
}

func isCombination(m [][]int, row []int) bool {
	return exactRank(append(slices.Clone(m), row)) == exactRank(m)
}

func startOf(row []int) int {
	return slices.IndexFunc(row, func(n int) bool { return n != 0 })
}

func commonDivisor(row []int) int {
	divisor := new(big.Int)
	for _, n := range row {
		divisor.GCD(nil, nil, divisor, big.NewInt(int64(max(n, -n))))
	}
	return int(divisor.Int64())
}

func equalRows(a, b [][]int) bool {
	return slices.EqualFunc(a, b, slices.Equal[[]int])
}

func cloneRows(m [][]int) [][]int {
	c := [][]int{}
	for _, row := range m {
		c = append(c, slices.Clone(row))
	}
	return c
}

func TestMatrixLimits(t *testing.T) {
	if impl.MaxRows != 12 || impl.MaxCols != 6 || impl.MaxCell != 2 || impl.MaxSum != 1000 {
		t.Errorf("the limits are %d, %d, %d, %d", impl.MaxRows, impl.MaxCols, impl.MaxCell, impl.MaxSum)
	}
}

func TestIsMatrix(t *testing.T) {
	valid := []sheet{
		{nil, 1}, {nil, maxCols}, {rows(), 1}, {rows(), 3}, {rows(), maxCols},
		{rows([]int{maxCell}), 1}, {rows([]int{-maxCell}), 1}, {rows([]int{0}, []int{1}, []int{-1}), 1},
		{slices.Repeat(rows([]int{1}), maxRows), 1}, {slices.Repeat(rows(slices.Repeat([]int{-maxCell}, maxCols)), maxRows), maxCols},
	}
	for _, s := range append(valid, allSheets()...) {
		if !impl.IsMatrix(s.m, s.cols) {
			t.Errorf("%v is no matrix with %d columns", s.m, s.cols)
		}
		for _, cols := range []int{s.cols - 1, s.cols + 1, -s.cols} {
			if len(s.m) > 0 && impl.IsMatrix(s.m, cols) {
				t.Errorf("%v is a matrix with %d columns", s.m, cols)
			}
		}
	}
	for _, s := range notSheets {
		if impl.IsMatrix(s.m, s.cols) {
			t.Errorf("%v is a matrix with %d columns", s.m, s.cols)
		}
	}
}

func TestReduceRows(t *testing.T) {
	for _, s := range sheets {
		if got := impl.ReduceRows(s.m, s.cols); !equalRows(got, s.reduced) {
			t.Errorf("ReduceRows(%v) is %v, not %v", s.m, got, s.reduced)
		}
		if got := impl.RankOf(s.m, s.cols); got != len(s.reduced) {
			t.Errorf("RankOf(%v) is %d, not %d", s.m, got, len(s.reduced))
		}
	}
	for _, s := range notSheets {
		if got := impl.ReduceRows(s.m, s.cols); len(got) != 0 {
			t.Errorf("ReduceRows(%v, %d) is %v", s.m, s.cols, got)
		}
		if got := impl.RankOf(s.m, s.cols); got != 0 {
			t.Errorf("RankOf(%v, %d) is %d", s.m, s.cols, got)
		}
	}
}

// TestReducedRowsSpanTheSameSums knows it from the ranks: neither the given nor
// the reduced rows add one to the others.
func TestReducedRowsSpanTheSameSums(t *testing.T) {
	for _, s := range allSheets() {
		got := impl.ReduceRows(s.m, s.cols)
		rank := exactRank(s.m)
		if exactRank(got) != rank || exactRank(slices.Concat(s.m, got)) != rank {
			t.Errorf("ReduceRows(%v) is %v, which spans other sums", s.m, got)
		}
		if len(got) != rank || impl.RankOf(s.m, s.cols) != rank {
			t.Errorf("RankOf(%v) is %d, the reduced rows are %d, the rank is %d", s.m, impl.RankOf(s.m, s.cols), len(got), rank)
		}
	}
}

func TestReducedRowsHaveTheirForm(t *testing.T) {
	for _, s := range allSheets() {
		got := impl.ReduceRows(s.m, s.cols)
		before := -1
		for i, row := range got {
			start := startOf(row)
			if len(row) != s.cols || start <= before || row[start] < 0 || commonDivisor(row) != 1 {
				t.Fatalf("ReduceRows(%v) is %v: see row %d", s.m, got, i)
			}
			for j, other := range got {
				if j != i && other[start] != 0 {
					t.Errorf("ReduceRows(%v) is %v: row %d is not 0 where row %d begins", s.m, got, j, i)
				}
			}
			before = start
		}
	}
}

func TestReduceRowsDoesNotDependOnTheOrder(t *testing.T) {
	for _, s := range allSheets() {
		turned := cloneRows(s.m)
		slices.Reverse(turned)
		want := impl.ReduceRows(s.m, s.cols)
		if got := impl.ReduceRows(turned, s.cols); !equalRows(got, want) {
			t.Errorf("ReduceRows(%v) is %v, but %v the other way", s.m, want, got)
		}
	}
}

// matrixFunctions are called with a matrix and a row; what they return is wiped
// out, spare room included.
var matrixFunctions = []struct {
	name string
	call func(m [][]int, row []int)
}{
	{"IsMatrix", func(m [][]int, row []int) { impl.IsMatrix(m, len(row)) }},
	{"ReduceRows", func(m [][]int, row []int) {
		reduced := impl.ReduceRows(m, len(row))
		for _, r := range reduced[:cap(reduced)] {
			clear(r[:cap(r)])
		}
		clear(reduced[:cap(reduced)])
	}},
	{"RankOf", func(m [][]int, row []int) { impl.RankOf(m, len(row)) }},
	{"IsInSpan", func(m [][]int, row []int) { impl.IsInSpan(m, row) }},
	{"DotOf", func(m [][]int, row []int) { impl.DotOf(row, row) }},
	{"NullVector", func(m [][]int, row []int) {
		vector := impl.NullVector(m, row)
		clear(vector[:cap(vector)])
	}},
	{"FormatRows", func(m [][]int, row []int) { impl.FormatRows(m) }},
}

// roomyRows returns the rows with spare room behind each of them and behind
// their list, in which the first row stands once more if a matrix has room for
// it, and a function that reports whether all of it is as it was.
func roomyRows(m [][]int) ([][]int, func() bool) {
	checks := []func() bool{}
	whole := [][]int{}
	for _, row := range m {
		r, unchanged := roomy(row)
		whole, checks = append(whole, r), append(checks, unchanged)
	}
	if len(whole) > 0 && len(whole) < maxRows {
		whole = append(whole, whole[0])
	}
	count := len(whole)
	mark, unchanged := roomy([]int{99})
	whole, checks = append(whole, mark, mark, mark), append(checks, unchanged)
	before := slices.Clone(whole)
	return whole[:count], func() bool {
		same := func(a, b []int) bool { return len(a) == len(b) && &a[0] == &b[0] }
		return slices.EqualFunc(whole, before, same) && !slices.ContainsFunc(checks, func(c func() bool) bool { return !c() })
	}
}

func TestMatrixFunctionsLeaveTheirArguments(t *testing.T) {
	for _, s := range allSheets() {
		for _, f := range matrixFunctions {
			m, mUnchanged := roomyRows(s.m)
			row, rowUnchanged := roomy(slices.Repeat([]int{-1}, s.cols))
			f.call(m, row)
			if !mUnchanged() || !rowUnchanged() {
				t.Fatalf("%s changes an argument: %v or its row", f.name, s.m)
			}
		}
	}
}

func TestReducedRowsShareNoMemory(t *testing.T) {
	for _, s := range allSheets() {
		got := impl.ReduceRows(s.m, s.cols)
		want := cloneRows(got)
		for i, row := range got {
			clear(row[:cap(row)])
			clear(want[i])
			if !equalRows(got, want) {
				t.Fatalf("rows of ReduceRows(%v) share memory", s.m)
			}
		}
	}
}

// A question has rows and a row that may follow from them.
type question struct {
	m   [][]int
	row []int
}

// notQuestions are refused whatever would follow.
var notQuestions = []question{
	{nil, nil}, {nil, []int{}}, {rows([]int{}), []int{}}, {nil, make([]int, maxCols+1)}, {rows(make([]int, maxCols+1)), make([]int, maxCols+1)},
	// a row with another number of columns, also one of zeros alone
	{rows([]int{1, 0, 1}), []int{1, 0}}, {rows([]int{1, 0, 1}), []int{1, 0, 1, 0}}, {rows([]int{1, 0, 1}), []int{0, 0}}, {rows([]int{1, 0}), nil}, {rows(nil), []int{0}},
	{rows([]int{1, 0}, []int{1}), []int{1, 0}}, {rows([]int{1, 0}, []int{1}), []int{0, 1}},
	// an integer out of range in the row, or in the matrix
	{rows([]int{1, 0}), []int{maxCell + 1, 0}}, {rows([]int{1, 0}), []int{-maxCell - 1, 0}}, {rows([]int{1, 0}), []int{0, maxCell + 1}}, {nil, []int{math.MinInt}}, {nil, []int{math.MaxInt}},
	{rows([]int{maxCell + 1, 0}), []int{1, 0}}, {rows([]int{maxCell + 1, 0}), []int{0, 0}}, {rows([]int{-maxCell - 1, 0}), []int{0, 1}},
	// a row too many in the matrix
	{slices.Repeat(rows([]int{1, 0}), maxRows+1), []int{1, 0}}, {slices.Repeat(rows([]int{1, 0}), maxRows+1), []int{0, 0}}, {slices.Repeat(rows([]int{1, 0}), maxRows+1), []int{0, 1}},
}

// manyQuestions asks of each matrix for each single column, for its own rows,
// and for sums, differences and other rows.
func manyQuestions() []question {
	random := rand.New(rand.NewPCG(6, 958))
	l := []question{}
	for _, s := range allSheets() {
		for column := range s.cols {
			row := make([]int, s.cols)
			row[column] = 1 + random.IntN(maxCell)
			l = append(l, question{s.m, row})
		}
		other, combined := make([]int, s.cols), make([]int, s.cols)
		for j := range s.cols {
			other[j] = random.IntN(2*maxCell+1) - maxCell
			for i, row := range s.m {
				combined[j] += row[j] * (1 - 2*(i%2))
			}
		}
		l = append(l, question{s.m, other}, question{s.m, make([]int, s.cols)})
		if impl.IsMatrix(rows(combined), s.cols) {
			l = append(l, question{s.m, combined})
		}
		if len(s.m) > 0 {
			l = append(l, question{s.m, s.m[random.IntN(len(s.m))]})
		}
	}
	return l
}

func TestIsInSpan(t *testing.T) {
	chain := rows([]int{1, 1, 0}, []int{0, 1, 1})
	full := slices.Concat(slices.Repeat(rows([]int{1, 1, 0}), maxRows-1), rows([]int{0, 1, 1}))
	cases := []struct {
		question
		want bool
	}{
		{question{chain, []int{1, 1, 0}}, true},
		{question{chain, []int{0, 1, 1}}, true},
		{question{chain, []int{1, 0, -1}}, true},
		{question{chain, []int{-1, 0, 1}}, true},
		{question{chain, []int{1, 2, 1}}, true},
		{question{chain, []int{2, 1, -1}}, true},
		{question{chain, []int{1, 0, 1}}, false},
		{question{chain, []int{1, 0, 0}}, false},
		{question{chain, []int{0, 0, 1}}, false},
		// a row of zeros
		{question{chain, []int{0, 0, 0}}, true},
		{question{nil, []int{0}}, true},
		{question{rows(), make([]int, maxCols)}, true},
		{question{rows([]int{0, 0}), []int{0, 0}}, true},
		{question{rows([]int{0, 0}), []int{0, 1}}, false},
		{question{nil, []int{0, 1}}, false},
		// only by fractions
		{question{rows([]int{2}), []int{1}}, true},
		{question{rows([]int{2, 2}), []int{-1, -1}}, true},
		{question{rows([]int{2, 1}, []int{0, 2}), []int{1, 0}}, true},
		{question{rows([]int{1, 2}, []int{2, 1}), []int{0, 1}}, true},
		{question{rows([]int{1, 2, 0}, []int{2, 1, 0}), []int{0, 1, 1}}, false},
		{question{rows([]int{1, 1, 0}, []int{0, 1, 1}, []int{1, 0, 1}), []int{1, 0, 0}}, true},
		// as many rows as a matrix has
		{question{full, []int{1, 0, -1}}, true},
		{question{full, []int{0, 0, 0}}, true},
		{question{full, []int{1, 0, 1}}, false},
		// integers at the limits
		{question{chain, []int{maxCell, maxCell, 0}}, true},
		{question{chain, []int{-maxCell, 0, maxCell}}, true},
		{question{chain, []int{-maxCell, -maxCell, maxCell}}, false},
	}
	for _, c := range cases {
		if impl.IsInSpan(c.m, c.row) != c.want {
			t.Errorf("IsInSpan(%v, %v) is not %t", c.m, c.row, c.want)
		}
	}
	for _, q := range notQuestions {
		if impl.IsInSpan(q.m, q.row) {
			t.Errorf("IsInSpan(%v, %v) holds", q.m, q.row)
		}
	}
}

func TestIsInSpanIsExact(t *testing.T) {
	in, out := 0, 0
	for _, q := range manyQuestions() {
		want := isCombination(q.m, q.row)
		if impl.IsInSpan(q.m, q.row) != want {
			t.Errorf("IsInSpan(%v, %v) is not %t", q.m, q.row, want)
		}
		if want {
			in++
		} else {
			out++
		}
	}
	if in < 1000 || out < 1000 {
		t.Errorf("only %d rows follow and %d do not", in, out)
	}
}

func TestDotOf(t *testing.T) {
	cases := []struct {
		a, b []int
		want int
	}{
		{nil, nil, 0},
		{nil, []int{1}, 0},
		{[]int{}, []int{5, 6}, 0},
		{[]int{3}, []int{4}, 12},
		{[]int{1, 2, 3}, []int{4, 5}, 14},
		{[]int{1, 2, 3}, []int{4, 5, 6}, 32},
		{[]int{1, 2}, []int{4, 5, 1000}, 14},
		{[]int{-1, 2, -3}, []int{4, -5, -6}, 4},
		{[]int{-7, 0}, []int{3, 9}, -21},
		{[]int{1, -1}, []int{5, 5}, 0},
		{[]int{impl.MaxValue, 1}, []int{-1000, 7}, -1000*impl.MaxValue + 7},
		{[]int{math.MinInt, math.MaxInt}, []int{1, 1}, -1},
		{slices.Repeat([]int{2}, 50), slices.Repeat([]int{-3}, 40), -240},
	}
	for _, c := range cases {
		if got := impl.DotOf(c.a, c.b); got != c.want {
			t.Errorf("DotOf(%v, %v) is %d, not %d", c.a, c.b, got, c.want)
		}
		if got := impl.DotOf(c.b, c.a); got != c.want {
			t.Errorf("DotOf(%v, %v) is %d, not %d", c.b, c.a, got, c.want)
		}
	}
}

func TestNullVector(t *testing.T) {
	chain := rows([]int{1, 1, 0}, []int{0, 1, 1})
	block := rows([]int{2, 0, 0, 1}, []int{0, 1, 2, 1}, []int{0, 2, 1, 0})
	cases := []struct {
		question
		want []int
	}{
		{question{chain, []int{1, 0, 1}}, []int{1, -1, 1}},
		{question{chain, []int{0, 1, 0}}, []int{1, -1, 1}},
		{question{chain, []int{-1, 0, 0}}, []int{1, -1, 1}},
		// no rows, and rows of zeros
		{question{nil, []int{1}}, []int{1}},
		{question{nil, []int{0, 1}}, []int{0, 1}},
		{question{rows(), []int{0, -2, 0, 1, 0, 0}}, []int{0, 1, 0, 0, 0, 0}},
		{question{rows([]int{0, 0}), []int{0, -2}}, []int{0, 1}},
		// the first column that succeeds, and nothing left of one that failed
		{question{rows([]int{1, 1, 1}), []int{1, 0, 0}}, []int{-1, 1, 0}},
		{question{rows([]int{1, 1, 1}), []int{1, 1, 0}}, []int{-1, 0, 1}},
		{question{rows([]int{1, 1, 1, 1}), []int{2, 2, 2, 1}}, []int{-1, 0, 0, 1}},
		{question{rows([]int{0, 1, 1, 2}), []int{0, 2, 2, 1}}, []int{0, -2, 0, 1}},
		// the least common multiple, also of rows in which the column is 0
		{question{rows([]int{2, 1}), []int{1, 0}}, []int{-1, 2}},
		{question{rows([]int{2, 0, 1}), []int{0, 1, 0}}, []int{0, 2, 0}},
		{question{rows([]int{2, 0, 1}), []int{1, 0, 1}}, []int{-1, 0, 2}},
		{question{block, []int{1, 0, 0, 0}}, []int{-3, 2, -4, 6}},
		{question{block, []int{0, 0, 0, 2}}, []int{-3, 2, -4, 6}},
	}
	for _, c := range cases {
		if got := impl.NullVector(c.m, c.row); !slices.Equal(got, c.want) {
			t.Errorf("NullVector(%v, %v) is %v, not %v", c.m, c.row, got, c.want)
		}
	}
	inSpan := []question{
		{chain, []int{1, 1, 0}}, {chain, []int{1, 0, -1}}, {chain, []int{0, 0, 0}}, {nil, []int{0, 0}}, {rows([]int{2}), []int{1}}, {rows([]int{2, 1}, []int{0, 2}), []int{1, 2}},
	}
	for _, q := range append(inSpan, notQuestions...) {
		if got := impl.NullVector(q.m, q.row); len(got) != 0 {
			t.Errorf("NullVector(%v, %v) is %v", q.m, q.row, got)
		}
	}
}

func TestNullVectorTellsRowsApart(t *testing.T) {
	for _, q := range manyQuestions() {
		got := impl.NullVector(q.m, q.row)
		if impl.IsInSpan(q.m, q.row) {
			if len(got) != 0 {
				t.Errorf("NullVector(%v, %v) is %v", q.m, q.row, got)
			}
			continue
		}
		if len(got) != len(q.row) || impl.DotOf(got, q.row) == 0 {
			t.Errorf("NullVector(%v, %v) is %v", q.m, q.row, got)
		}
		for _, row := range q.m {
			if impl.DotOf(got, row) != 0 {
				t.Errorf("NullVector(%v, %v) is %v, which shows in row %v", q.m, q.row, got, row)
			}
		}
	}
}

// TestNullVectorIsTheFirst reckons with the column F set to 1 and with big
// fractions, so that no common multiple is needed.
func TestNullVectorIsTheFirst(t *testing.T) {
	for _, q := range manyQuestions() {
		got := impl.NullVector(q.m, q.row)
		if len(got) == 0 {
			continue
		}
		reduced := impl.ReduceRows(q.m, len(q.row))
		starts, multiple := map[int]bool{}, big.NewInt(1)
		for _, row := range reduced {
			start := startOf(row)
			starts[start] = true
			lead := big.NewInt(int64(row[start]))
			multiple.Div(new(big.Int).Mul(multiple, lead), new(big.Int).GCD(nil, nil, multiple, lead))
		}
		first := 0
		for starts[first] || sumBeside(reduced, q.row, first).Sign() == 0 {
			first++
		}
		for column, n := range got {
			want := 0
			if column == first {
				want = int(multiple.Int64())
			}
			if !starts[column] && n != want {
				t.Errorf("NullVector(%v, %v) is %v, with %d in column %d", q.m, q.row, got, n, column)
			}
		}
	}
}

// sumBeside returns the sum for row if the given column is 1, all others in
// which no row begins are 0, and the sums for the reduced rows are 0.
func sumBeside(reduced [][]int, row []int, column int) *big.Rat {
	sum := big.NewRat(int64(row[column]), 1)
	for _, r := range reduced {
		start := startOf(r)
		sum.Sub(sum, big.NewRat(int64(r[column]*row[start]), int64(r[start])))
	}
	return sum
}

func TestFormatRows(t *testing.T) {
	cases := []struct {
		m    [][]int
		want string
	}{
		{nil, "-"},
		{rows(), "-"},
		{rows([]int{7}), "7"},
		{rows([]int{1, 0, 2}), "1 0 2"},
		{rows([]int{-1, 0, -2}), "-1 0 -2"},
		{rows([]int{1, 1, 0}, []int{0, 1, 1}), "1 1 0; 0 1 1"},
		{rows([]int{-1}, []int{2}, []int{-3}), "-1; 2; -3"},
		// rows without integers
		{rows([]int{}), ""},
		{rows(nil), ""},
		{rows([]int{}, nil), "; "},
		{rows([]int{1}, []int{}, []int{2}), "1; ; 2"},
		// what is no matrix
		{rows([]int{1, 2, 3}, []int{4}), "1 2 3; 4"},
		{rows([]int{100, -100}, []int{math.MaxInt, math.MinInt}), "100 -100; 9223372036854775807 -9223372036854775808"},
		{slices.Repeat(rows([]int{5}), maxRows+1), "5; 5; 5; 5; 5; 5; 5; 5; 5; 5; 5; 5; 5"},
		{rows([]int{1, 2, 3, 4, 5, 6, 7}), "1 2 3 4 5 6 7"},
	}
	for _, c := range cases {
		if got := impl.FormatRows(c.m); got != c.want {
			t.Errorf("FormatRows(%v) is %q, not %q", c.m, got, c.want)
		}
	}
}
