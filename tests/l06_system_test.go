package tests

import (
	"math"
	"math/big"
	"math/rand/v2"
	"slices"
	"sync"
	"testing"

	"loop.example/g00958/impl"
)

const maxSum = impl.MaxSum

// A measured sheet has a value for each row, if it is a system.
type measured struct {
	sheet
	values []int
}

func system(m [][]int, cols int, values ...int) measured {
	return measured{sheet{m, cols}, values}
}

func wholes(numbers ...int) []impl.Ratio {
	x := []impl.Ratio{}
	for _, n := range numbers {
		x = append(x, ratio(n, 1))
	}
	return x
}

// notSystems returns what is no system, each for one reason alone: what is no
// matrix has as many values as rows.
func notSystems() []measured {
	l := []measured{
		// as many values as rows, but one more or one fewer
		system(nil, 2, 0), system(rows(), maxCols, 5),
		system(rows([]int{1, 1}), 2), system(rows([]int{0}), 1), system(rows([]int{1, 1}), 2, 8, 8), system(rows([]int{0}), 1, 0, 0),
		system(rows([]int{1, 1}, []int{1, 1}), 2, 8), system(rows([]int{1, 1}, []int{1, 1}), 2, 8, 8, 8), {sheet{rows([]int{0, 0}, []int{0, 0}), 2}, nil},
		system(slices.Repeat(rows([]int{1}), maxRows), 1, slices.Repeat([]int{7}, maxRows-1)...), system(slices.Repeat(rows([]int{1}), maxRows), 1, slices.Repeat([]int{7}, maxRows+1)...),
		// values out of range
		system(rows([]int{1}), 1, maxSum+1), system(rows([]int{1}), 1, -maxSum-1), system(rows([]int{1}), 1, math.MaxInt), system(rows([]int{1}), 1, math.MinInt), system(rows([]int{2, 2}), 2, 2*maxSum),
		system(rows([]int{1, 1}, []int{1, 0}), 2, 0, maxSum+1), system(rows([]int{1, 1}, []int{1, 0}), 2, -maxSum-1, 0), system(rows([]int{1}, []int{1}, []int{1}), 1, 1, maxSum+1, 1),
	}
	for _, s := range notSheets {
		l = append(l, measured{s, make([]int, len(s.m))})
	}
	return l
}

// solvableSystems have the solution that is 0 where no reduced row begins.
var solvableSystems = []struct {
	measured
	solution []impl.Ratio
}{
	// no rows, and rows of zeros
	{measured{sheet{nil, 1}, nil}, wholes(0)},
	{measured{sheet{rows(), 2}, []int{}}, wholes(0, 0)},
	{measured{sheet{nil, maxCols}, []int{}}, wholes(0, 0, 0, 0, 0, 0)},
	{system(rows([]int{0}), 1, 0), wholes(0)},
	{system(rows([]int{0, 0, 0}, []int{0, 0, 0}), 3, 0, 0), wholes(0, 0, 0)},
	{system(rows([]int{0, 0}, []int{0, 1}, []int{0, 0}), 2, 0, 3, 0), wholes(0, 3)},
	// one solution, also with negative values
	{system(rows([]int{1}), 1, 5), wholes(5)},
	{system(rows([]int{1}), 1, 0), wholes(0)},
	{system(rows([]int{-1}), 1, 5), wholes(-5)},
	{system(rows([]int{2}), 1, -6), wholes(-3)},
	{system(rows([]int{-2}), 1, -6), wholes(3)},
	{system(rows([]int{1, 1, 0}, []int{1, 0, 1}, []int{0, 1, 1}), 3, 8, 10, 12), wholes(3, 5, 7)},
	{system(rows([]int{1, 1, 0}, []int{1, 0, 1}, []int{0, 1, 1}), 3, -8, -10, -12), wholes(-3, -5, -7)},
	{system(rows([]int{1, 1}, []int{1, -1}), 2, 1, -7), wholes(-3, 4)},
	// fractions
	{system(rows([]int{2}), 1, 5), []impl.Ratio{ratio(5, 2)}},
	{system(rows([]int{-2}), 1, 5), []impl.Ratio{ratio(-5, 2)}},
	{system(rows([]int{2}), 1, -1), []impl.Ratio{ratio(-1, 2)}},
	{system(rows([]int{1, 2}, []int{2, 1}), 2, 1, 0), []impl.Ratio{ratio(-1, 3), ratio(2, 3)}},
	{system(rows([]int{1, 1, 0}, []int{1, 0, 1}, []int{0, 1, 1}), 3, 8, 10, 13), []impl.Ratio{ratio(5, 2), ratio(11, 2), ratio(15, 2)}},
	{system(rows([]int{0, 0, 2}, []int{0, -1, 0}, []int{-2, 0, 0}), 3, 1, 2, 3), []impl.Ratio{ratio(-3, 2), ratio(-2, 1), ratio(1, 2)}},
	// many solutions, and columns in which no reduced row begins
	{system(rows([]int{1, 1}), 2, 8), wholes(8, 0)},
	{system(rows([]int{0, 1, 1}), 3, 4), wholes(0, 4, 0)},
	{system(rows([]int{0, 0, 2}), 3, 3), []impl.Ratio{ratio(0, 1), ratio(0, 1), ratio(3, 2)}},
	{system(rows([]int{1, 1, 0}, []int{0, 1, 1}), 3, 3, 5), wholes(-2, 5, 0)},
	{system(rows([]int{1, 1, 0}, []int{1, 1, 1}), 3, 3, 5), wholes(3, 0, 2)},
	{system(rows([]int{2, 0, 0, 1}, []int{0, 1, 2, 1}, []int{0, 2, 1, 0}), 4, 1, 2, 3), []impl.Ratio{ratio(1, 2), ratio(4, 3), ratio(1, 3), ratio(0, 1)}},
	{system(rows([]int{0, 0, 1, 0, 0, -2}), maxCols, -9), wholes(0, 0, -9, 0, 0, 0)},
	// equal rows, and rows that depend on each other
	{system(rows([]int{1, 1}, []int{1, 1}), 2, 8, 8), wholes(8, 0)},
	{system(rows([]int{1, 1}, []int{1, 1}, []int{2, 2}), 2, 8, 8, 16), wholes(8, 0)},
	{system(rows([]int{1, -1}, []int{-2, 2}, []int{2, -2}), 2, 3, -6, 6), wholes(3, 0)},
	{system(rows([]int{1, 1, 0}, []int{0, 1, 1}, []int{1, 0, -1}), 3, 3, 5, -2), wholes(-2, 5, 0)},
	{system(rows([]int{1, 1}, []int{2, 2}, []int{1, -1}), 2, 1, 2, 0), []impl.Ratio{ratio(1, 2), ratio(1, 2)}},
	{system(rows([]int{2}, []int{-2}, []int{1}, []int{0}), 1, 10, -10, 5, 0), wholes(5)},
	// values, rows and columns at the limits
	{system(rows([]int{1}), 1, maxSum), wholes(maxSum)},
	{system(rows([]int{1}), 1, -maxSum), wholes(-maxSum)},
	{system(rows([]int{1, 1}, []int{1, -1}), 2, maxSum, -maxSum), wholes(0, maxSum)},
	{system(slices.Repeat(rows([]int{-1, 2}), maxRows), 2, slices.Repeat([]int{7}, maxRows)...), wholes(-7, 0)},
	{system(slices.Repeat(rows([]int{maxCell, 0, 0, 0, 0, -maxCell}), maxRows), maxCols, slices.Repeat([]int{-maxSum}, maxRows)...), wholes(-maxSum/maxCell, 0, 0, 0, 0, 0)},
}

var unsolvableSystems = []measured{
	// rows of zeros with another value
	system(rows([]int{0}), 1, 1), system(rows([]int{0}), 1, -1), system(rows([]int{0, 0}), 2, maxSum), system(rows([]int{0, 0, 0, 0, 0, 0}), maxCols, -maxSum),
	system(rows([]int{0, 0}, []int{1, 0}), 2, 1, 1), system(rows([]int{1, 0}, []int{0, 0}), 2, 1, 1), system(rows([]int{0}, []int{0}, []int{0}), 1, 0, 0, 1),
	// equal rows with different values
	system(rows([]int{1, 1}, []int{1, 1}), 2, 8, 9), system(rows([]int{1, 1}, []int{1, 1}), 2, 8, -8), system(rows([]int{1, 1}, []int{1, 1}), 2, 0, 1), system(rows([]int{1, 1}, []int{1, 1}), 2, 8, 0),
	system(rows([]int{1, 0}, []int{0, 1}, []int{1, 0}), 2, 0, 5, 1), system(slices.Repeat(rows([]int{1}), maxRows), 1, 7, 7, 7, 7, 7, 7, 7, 7, 7, 7, 7, 8),
	// rows that depend on each other
	system(rows([]int{1}, []int{-1}), 1, 5, 5), system(rows([]int{1}, []int{2}), 1, 1, 1), system(rows([]int{1, 1}, []int{1, 1}, []int{2, 2}), 2, 8, 8, 15), system(rows([]int{1, 1}, []int{2, 2}), 2, 0, 1),
	system(rows([]int{1, 1, 0}, []int{0, 1, 1}, []int{1, 0, -1}), 3, 3, 5, -1), system(rows([]int{1, 1, 0}, []int{0, 1, 1}, []int{1, 0, -1}), 3, 3, 5, 2),
	system(rows([]int{1, 0}, []int{0, 1}, []int{1, 1}), 2, 1, 2, 4), system(rows([]int{1, 0}, []int{0, 1}, []int{1, 1}), 2, maxSum, maxSum, maxSum),
}

// An inquiry has a system and a row whose sum is asked for.
type inquiry struct {
	measured
	row      []int
	solvable bool
}

// manyInquiries returns, for the questions about matrices, systems with values
// that have a solution of whole numbers, with one of these values changed, and
// with any values.
var manyInquiries = sync.OnceValue(func() []inquiry {
	random := rand.New(rand.NewPCG(7, 958))
	l := []inquiry{}
	for _, q := range manyQuestions() {
		s := measured{sheet{q.m, len(q.row)}, valuesFor(q.m, len(q.row), random)}
		l = append(l, inquiry{s, q.row, s.isSolvable()})
	}
	return l
})

func valuesFor(m [][]int, cols int, random *rand.Rand) []int {
	hidden := make([]int, cols)
	for j := range hidden {
		hidden[j] = random.IntN(161) - 80
	}
	values, kind := []int{}, random.IntN(3)
	for _, row := range m {
		value := impl.DotOf(row, hidden)
		if kind == 2 {
			value = random.IntN(2*maxSum+1) - maxSum
		}
		values = append(values, value)
	}
	if kind == 1 && len(m) > 0 {
		values[random.IntN(len(m))]++
	}
	return values
}

// isSolvable knows it from the ranks: the values add none to that of the rows.
func (s measured) isSolvable() bool {
	joined := [][]int{}
	for i, row := range s.m {
		joined = append(joined, slices.Concat(row, []int{s.values[i]}))
	}
	return exactRank(joined) == exactRank(s.m)
}

func exactSum(row []int, x []impl.Ratio) *big.Rat {
	sum := new(big.Rat)
	for i, n := range row {
		sum.Add(sum, new(big.Rat).Mul(big.NewRat(int64(n), 1), exactOf(x[i])))
	}
	return sum
}

func (s measured) hasExactly(x []impl.Ratio) bool {
	for i, row := range s.m {
		if exactSum(row, x).Cmp(big.NewRat(int64(s.values[i]), 1)) != 0 {
			return false
		}
	}
	return true
}

func TestIsSystem(t *testing.T) {
	valid := slices.Clone(unsolvableSystems)
	for _, s := range solvableSystems {
		valid = append(valid, s.measured)
	}
	for _, q := range manyInquiries() {
		valid = append(valid, q.measured)
	}
	for _, s := range valid {
		if !impl.IsSystem(s.m, s.values, s.cols) {
			t.Errorf("%v is no system", s)
		}
		for _, cols := range []int{0, -s.cols, maxCols + 1, math.MaxInt, math.MinInt} {
			if impl.IsSystem(s.m, s.values, cols) {
				t.Errorf("%v is a system with %d columns", s, cols)
			}
		}
		if impl.IsSystem(s.m, append(slices.Clone(s.values), 0), s.cols) || len(s.values) > 0 && impl.IsSystem(s.m, s.values[1:], s.cols) {
			t.Errorf("%v is a system with a value more or fewer", s)
		}
	}
	for _, s := range notSystems() {
		if impl.IsSystem(s.m, s.values, s.cols) {
			t.Errorf("%v is a system", s)
		}
	}
}

func TestIsSolvable(t *testing.T) {
	for _, s := range solvableSystems {
		if !impl.IsSolvable(s.m, s.values, s.cols) {
			t.Errorf("%v is not solvable", s.measured)
		}
	}
	for _, s := range slices.Concat(unsolvableSystems, notSystems()) {
		if impl.IsSolvable(s.m, s.values, s.cols) {
			t.Errorf("%v is solvable", s)
		}
	}
}

func TestIsSolvableIsExact(t *testing.T) {
	count := map[bool]int{}
	for _, q := range manyInquiries() {
		if impl.IsSolvable(q.m, q.values, q.cols) != q.solvable {
			t.Errorf("IsSolvable of %v is not %t", q.measured, q.solvable)
		}
		count[q.solvable]++
	}
	if count[true] < 1000 || count[false] < 1000 {
		t.Errorf("only %d systems are solvable and %d are not", count[true], count[false])
	}
}

func TestSolutionOf(t *testing.T) {
	for _, s := range solvableSystems {
		if got, ok := impl.SolutionOf(s.m, s.values, s.cols); !ok || !slices.Equal(got, s.solution) {
			t.Errorf("SolutionOf %v is %v, %t, not %v", s.measured, got, ok, s.solution)
		}
	}
	for _, s := range slices.Concat(unsolvableSystems, notSystems()) {
		if got, ok := impl.SolutionOf(s.m, s.values, s.cols); len(got) != 0 || ok {
			t.Errorf("SolutionOf %v is %v, %t", s, got, ok)
		}
	}
}

// TestSolutionOfIsExact tells by the ranks of the first columns in which
// columns no reduced row begins: they add none.
func TestSolutionOfIsExact(t *testing.T) {
	withFractions := 0
	for _, q := range manyInquiries() {
		got, ok := impl.SolutionOf(q.m, q.values, q.cols)
		if ok != q.solvable || !ok && len(got) != 0 {
			t.Fatalf("SolutionOf %v is %v, %t", q.measured, got, ok)
		}
		if !ok {
			continue
		}
		if len(got) != q.cols || !q.hasExactly(got) {
			t.Fatalf("SolutionOf %v is %v, which is none", q.measured, got)
		}
		if slices.ContainsFunc(got, func(r impl.Ratio) bool { return r.Den > 1 }) {
			withFractions++
		}
		begun := make([][]int, len(q.m))
		for column, r := range got {
			rank := exactRank(begun)
			for i, row := range q.m {
				begun[i] = row[:column+1]
			}
			if !impl.IsRatio(r) || exactRank(begun) == rank && r != ratio(0, 1) {
				t.Errorf("SolutionOf %v is %v: see column %d", q.measured, got, column)
			}
		}
	}
	if withFractions < 1000 {
		t.Errorf("only %d solutions have fractions", withFractions)
	}
}

// TestSystemsWithGreatIntegers has the rows and values for which the integers
// on the way are greatest.
func TestSystemsWithGreatIntegers(t *testing.T) {
	random := rand.New(rand.NewPCG(8, 958))
	sign := func(n int) int { return n * (1 - 2*random.IntN(2)) }
	for n := range 3000 {
		s := measured{sheet: sheet{cols: maxCols}}
		for range maxCols + n%3*(maxRows-maxCols)/2 {
			row := make([]int, maxCols)
			for j := range row {
				row[j] = sign(maxCell)
			}
			s.m, s.values = append(s.m, row), append(s.values, sign(maxSum-random.IntN(2)))
		}
		x, ok := impl.SolutionOf(s.m, s.values, s.cols)
		if want := s.isSolvable(); ok != want || impl.IsSolvable(s.m, s.values, s.cols) != want {
			t.Fatalf("SolutionOf %v is %v, %t", s, x, ok)
		}
		if !ok {
			continue
		}
		if !s.hasExactly(x) || !impl.FitsSystem(s.m, s.values, x) {
			t.Errorf("SolutionOf %v is %v", s, x)
		}
		row := s.m[random.IntN(len(s.m))]
		row = append(slices.Clone(row[1:]), sign(maxCell))
		got, ok := impl.ValueOf(s.m, s.values, row)
		if ok != isCombination(s.m, row) || ok && exactOf(got).Cmp(exactSum(row, x)) != 0 {
			t.Errorf("ValueOf %v of %v is %v, %t", row, s, got, ok)
		}
	}
}

func TestValueOf(t *testing.T) {
	triangle := rows([]int{1, 1, 0}, []int{1, 0, 1}, []int{0, 1, 1})
	chain := rows([]int{1, 1, 0}, []int{0, 1, 1})
	cases := []struct {
		measured
		row  []int
		want impl.Ratio
	}{
		{system(triangle, 3, 8, 10, 12), []int{1, 0, 0}, ratio(3, 1)},
		{system(triangle, 3, 8, 10, 12), []int{1, -1, 2}, ratio(12, 1)},
		{system(triangle, 3, 8, 10, 12), []int{1, 1, 1}, ratio(15, 1)},
		{system(triangle, 3, 8, 10, 13), []int{1, 0, 0}, ratio(5, 2)},
		{system(triangle, 3, 8, 10, 13), []int{-2, 0, 0}, ratio(-5, 1)},
		{system(triangle, 3, -8, -10, -13), []int{0, 0, 1}, ratio(-15, 2)},
		// what follows although no single column does
		{system(chain, 3, 3, 5), []int{1, 1, 0}, ratio(3, 1)},
		{system(chain, 3, 3, 5), []int{1, 0, -1}, ratio(-2, 1)},
		{system(chain, 3, 3, 5), []int{-1, 0, 1}, ratio(2, 1)},
		{system(chain, 3, 3, 5), []int{1, 2, 1}, ratio(8, 1)},
		{system(chain, 3, 3, 5), []int{2, 2, 0}, ratio(6, 1)},
		{system(rows([]int{2, 2}), 2, 5), []int{1, 1}, ratio(5, 2)},
		{system(rows([]int{2, 2}), 2, 5), []int{-1, -1}, ratio(-5, 2)},
		{system(rows([]int{1, 2}, []int{2, 1}), 2, 1, 0), []int{1, 0}, ratio(-1, 3)},
		// rows of zeros
		{system(triangle, 3, 8, 10, 13), []int{0, 0, 0}, ratio(0, 1)},
		{system(chain, 3, 3, 5), []int{0, 0, 0}, ratio(0, 1)},
		{system(nil, 1), []int{0}, ratio(0, 1)},
		{system(rows(), maxCols), make([]int, maxCols), ratio(0, 1)},
		{system(rows([]int{0, 0}), 2, 0), []int{0, 0}, ratio(0, 1)},
		// rows that depend on each other
		{system(rows([]int{1, 1}, []int{1, 1}, []int{2, 2}), 2, 8, 8, 16), []int{1, 1}, ratio(8, 1)},
		{system(rows([]int{0, 0}, []int{0, 1}, []int{0, 2}), 2, 0, -3, -6), []int{0, 1}, ratio(-3, 1)},
		// limits
		{system(rows([]int{1, 0}, []int{0, 1}), 2, maxSum, -maxSum), []int{maxCell, -maxCell}, ratio(4*maxSum, 1)},
		{system(slices.Repeat(rows([]int{-1, 2}), maxRows), 2, slices.Repeat([]int{7}, maxRows)...), []int{1, -2}, ratio(-7, 1)},
	}
	for _, c := range cases {
		if got, ok := impl.ValueOf(c.m, c.values, c.row); got != c.want || !ok {
			t.Errorf("ValueOf %v of %v is %v, %t, not %v", c.row, c.measured, got, ok, c.want)
		}
	}
}

// A failure is a system, or none, and a row for which there is no answer.
type failure struct {
	measured
	row []int
}

func noInquiries() []failure {
	l := []failure{}
	for _, q := range notQuestions {
		l = append(l, failure{system(q.m, len(q.row), make([]int, len(q.m))...), q.row})
	}
	return l
}

func TestValueOfFails(t *testing.T) {
	chain := rows([]int{1, 1, 0}, []int{0, 1, 1})
	cases := []failure{
		// what does not follow
		{system(chain, 3, 3, 5), []int{1, 0, 0}}, {system(chain, 3, 3, 5), []int{1, 0, 1}}, {system(chain, 3, 0, 0), []int{0, 1, 0}}, {system(rows([]int{1, 1}), 2, 8), []int{1, 2}},
		{system(nil, 1), []int{1}}, {system(nil, maxCols), []int{0, 0, 0, 0, 0, -2}}, {system(rows([]int{0, 0}), 2, 0), []int{0, 1}},
		// another number of columns
		{system(chain, 3, 3, 5), []int{1, 1}}, {system(chain, 3, 3, 5), []int{1, 1, 0, 0}}, {system(chain, 3, 3, 5), []int{0, 0}}, {system(chain, 3, 3, 5), []int{}}, {system(chain, 3, 3, 5), nil},
		{system(nil, 1), nil}, {system(nil, 1), make([]int, maxCols+1)}, {system(rows([]int{}), 0, 0), []int{}},
		// an integer out of range, also where the row would follow
		{system(rows([]int{1}), 1, 5), []int{maxCell + 1}}, {system(rows([]int{1}), 1, 5), []int{-maxCell - 1}}, {system(rows([]int{1}), 1, 5), []int{math.MaxInt}}, {system(rows([]int{1}), 1, 5), []int{math.MinInt}},
		{system(chain, 3, 3, 5), []int{maxCell + 1, maxCell + 1, 0}}, {system(chain, 3, 0, 0), []int{0, -maxCell - 1, -maxCell - 1}},
	}
	for _, s := range slices.Concat(unsolvableSystems, notSystems()) {
		cases = append(cases, failure{s, make([]int, min(max(s.cols, 0), maxCols+1))})
		for _, row := range s.m {
			if len(row) == s.cols {
				cases = append(cases, failure{s, row})
			}
		}
	}
	for _, c := range append(cases, noInquiries()...) {
		if got, ok := impl.ValueOf(c.m, c.values, c.row); got != ratio(0, 0) || ok {
			t.Errorf("ValueOf %v of %v is %v, %t", c.row, c.measured, got, ok)
		}
	}
}

// solutionsOf returns, beside SolutionOf, its sums with fractional multiples
// of numbers that do not show in any row.
func (s measured) solutionsOf(random *rand.Rand) [][]impl.Ratio {
	x, _ := impl.SolutionOf(s.m, s.values, s.cols)
	l := [][]impl.Ratio{x}
	for column := range s.cols {
		single := make([]int, s.cols)
		single[column] = 1
		factor := big.NewRat(int64(random.IntN(41)-20), int64(random.IntN(4)+1))
		other := slices.Clone(l[len(l)-1])
		for i, n := range impl.NullVector(s.m, single) {
			sum := new(big.Rat).Mul(factor, big.NewRat(int64(n), 1))
			other[i], _ = ratioOf(sum.Add(sum, exactOf(other[i])))
		}
		l = append(l, other)
	}
	return l
}

func TestWhatFollowsHasOneValueInAllSolutions(t *testing.T) {
	random := rand.New(rand.NewPCG(9, 958))
	following, others := 0, 0
	for _, q := range manyInquiries() {
		value, ok := impl.ValueOf(q.m, q.values, q.row)
		if want := q.solvable && isCombination(q.m, q.row); ok != want || !ok && value != ratio(0, 0) {
			t.Fatalf("ValueOf %v of %v is %v, %t", q.row, q.measured, value, ok)
		}
		if !q.solvable {
			continue
		}
		for _, x := range q.solutionsOf(random) {
			if !impl.FitsSystem(q.m, q.values, x) {
				t.Fatalf("%v does not fit %v", x, q.measured)
			}
			if ok && exactSum(q.row, x).Cmp(exactOf(value)) != 0 {
				t.Errorf("ValueOf %v of %v is %v, but the solution %v has another sum", q.row, q.measured, value, x)
			}
		}
		if ok {
			following++
		} else {
			others++
		}
	}
	if following < 1000 || others < 1000 {
		t.Errorf("only %d values follow and %d do not", following, others)
	}
}

func TestWhatDoesNotFollowHasTwoValues(t *testing.T) {
	for _, q := range manyInquiries() {
		a, b, ok := impl.TwoSolutions(q.m, q.values, q.row)
		if want := q.solvable && !isCombination(q.m, q.row); ok != want || !ok && len(a)+len(b) != 0 {
			t.Fatalf("TwoSolutions of %v for %v is %v, %v, %t", q.measured, q.row, a, b, ok)
		}
		if !ok {
			continue
		}
		if !impl.FitsSystem(q.m, q.values, a) || !impl.FitsSystem(q.m, q.values, b) || !q.hasExactly(a) || !q.hasExactly(b) {
			t.Errorf("TwoSolutions of %v for %v is %v, %v, which are none", q.measured, q.row, a, b)
		}
		if exactSum(q.row, a).Cmp(exactSum(q.row, b)) == 0 {
			t.Errorf("TwoSolutions of %v for %v is %v, %v with equal sums", q.measured, q.row, a, b)
		}
		first, _ := impl.SolutionOf(q.m, q.values, q.cols)
		second := []impl.Ratio{}
		for i, n := range impl.NullVector(q.m, q.row) {
			sum, _ := ratioOf(new(big.Rat).Add(exactOf(first[i]), big.NewRat(int64(n), 1)))
			second = append(second, sum)
		}
		if !slices.Equal(a, first) || !slices.Equal(b, second) {
			t.Errorf("TwoSolutions of %v for %v is %v, %v, not %v, %v", q.measured, q.row, a, b, first, second)
		}
	}
}

func TestTwoSolutions(t *testing.T) {
	chain := rows([]int{1, 1, 0}, []int{0, 1, 1})
	block := rows([]int{2, 0, 0, 1}, []int{0, 1, 2, 1}, []int{0, 2, 1, 0})
	cases := []struct {
		measured
		row  []int
		a, b []impl.Ratio
	}{
		{system(rows([]int{1, 1}), 2, 8), []int{1, 0}, wholes(8, 0), wholes(7, 1)},
		{system(rows([]int{1, 1}), 2, -8), []int{0, 1}, wholes(-8, 0), wholes(-9, 1)},
		{system(chain, 3, 3, 5), []int{1, 0, 1}, wholes(-2, 5, 0), wholes(-1, 4, 1)},
		{system(rows([]int{1, 1, 1}), 3, 3), []int{1, 1, 0}, wholes(3, 0, 0), wholes(2, 0, 1)},
		{system(rows([]int{1, 1}, []int{1, 1}, []int{2, 2}), 2, 8, 8, 16), []int{1, -1}, wholes(8, 0), wholes(7, 1)},
		// fractions
		{system(rows([]int{2, 1}), 2, 5), []int{1, 0}, []impl.Ratio{ratio(5, 2), ratio(0, 1)}, []impl.Ratio{ratio(3, 2), ratio(2, 1)}},
		{system(block, 4, 1, 2, 3), []int{1, 0, 0, 0}, []impl.Ratio{ratio(1, 2), ratio(4, 3), ratio(1, 3), ratio(0, 1)}, []impl.Ratio{ratio(-5, 2), ratio(10, 3), ratio(-11, 3), ratio(6, 1)}},
		// no rows, and rows of zeros
		{system(nil, 1), []int{1}, wholes(0), wholes(1)},
		{system(rows(), 2), []int{0, -2}, wholes(0, 0), wholes(0, 1)},
		{system(nil, maxCols), []int{0, 0, 0, 0, 0, 1}, wholes(0, 0, 0, 0, 0, 0), wholes(0, 0, 0, 0, 0, 1)},
		{system(rows([]int{0, 0}), 2, 0), []int{1, 1}, wholes(0, 0), wholes(1, 0)},
	}
	for _, c := range cases {
		a, b, ok := impl.TwoSolutions(c.m, c.values, c.row)
		if !slices.Equal(a, c.a) || !slices.Equal(b, c.b) || !ok {
			t.Errorf("TwoSolutions of %v for %v is %v, %v, %t", c.measured, c.row, a, b, ok)
		}
	}
}

func TestTwoSolutionsFails(t *testing.T) {
	chain := rows([]int{1, 1, 0}, []int{0, 1, 1})
	cases := []failure{
		// what follows
		{system(chain, 3, 3, 5), []int{1, 1, 0}}, {system(chain, 3, 3, 5), []int{1, 0, -1}}, {system(chain, 3, 3, 5), []int{0, 0, 0}}, {system(rows([]int{2}), 1, 5), []int{1}},
		{system(nil, 2), []int{0, 0}}, {system(rows([]int{0, 0}), 2, 0), []int{0, 0}},
		// no row for the system
		{system(chain, 3, 3, 5), nil}, {system(chain, 3, 3, 5), []int{1, 0}}, {system(chain, 3, 3, 5), []int{1, 0, 0, 0}}, {system(chain, 3, 3, 5), []int{maxCell + 1, 0, 0}}, {system(nil, 1), nil}, {system(nil, 1), []int{-maxCell - 1}},
	}
	for _, s := range slices.Concat(unsolvableSystems, notSystems()) {
		for column := range min(s.cols, maxCols+1) {
			single := make([]int, min(s.cols, maxCols+1))
			single[column] = 1
			cases = append(cases, failure{s, single})
		}
	}
	for _, c := range append(cases, noInquiries()...) {
		if a, b, ok := impl.TwoSolutions(c.m, c.values, c.row); len(a)+len(b) != 0 || ok {
			t.Errorf("TwoSolutions of %v for %v is %v, %v, %t", c.measured, c.row, a, b, ok)
		}
	}
}

func TestFitsSystem(t *testing.T) {
	pair := system(rows([]int{1, 1}), 2, 8)
	cases := []struct {
		measured
		x    []impl.Ratio
		want bool
	}{
		{pair, wholes(8, 0), true},
		{pair, wholes(3, 5), true},
		{pair, wholes(-92, 100), true},
		{pair, []impl.Ratio{ratio(1, 3), ratio(23, 3)}, true},
		{pair, wholes(8, 1), false},
		{pair, wholes(0, 0), false},
		{pair, wholes(-8, 0), false},
		{pair, []impl.Ratio{ratio(8, 1), ratio(1, 2)}, false},
		{pair, []impl.Ratio{ratio(1, 2), ratio(1, 2)}, false},
		{system(rows([]int{1, 1}), 2, 9), wholes(8, 0), false},
		// every row counts
		{system(rows([]int{1, 1}, []int{1, -1}), 2, 8, 2), wholes(5, 3), true},
		{system(rows([]int{1, 1}, []int{1, -1}), 2, 8, 3), wholes(5, 3), false},
		{system(rows([]int{1, 1}, []int{1, -1}), 2, 9, 2), wholes(5, 3), false},
		{system(rows([]int{1, 1}, []int{1, 1}), 2, 8, 9), wholes(8, 0), false},
		{system(rows([]int{0, 0}, []int{1, 1}), 2, 0, 8), wholes(3, 5), true},
		{system(rows([]int{0, 0}, []int{1, 1}), 2, 1, 8), wholes(3, 5), false},
		// too few and too many fractions
		{pair, nil, false},
		{pair, wholes(), false},
		{pair, wholes(8), false},
		{pair, wholes(8, 0, 0), false},
		// no rows
		{system(nil, 1), wholes(7), true},
		{system(rows(), 2), []impl.Ratio{ratio(-maxRatio, 1), ratio(1, maxRatio)}, true},
		{system(nil, maxCols), wholes(1, 2, 3, 4, 5, 6), true},
		{system(nil, 1), nil, false},
		{system(nil, maxCols), wholes(1, 2, 3, 4, 5, 6, 7), false},
		// what is 0 in a sum, however great or small
		{system(rows([]int{1, 0, 0}), 3, 5), []impl.Ratio{ratio(5, 1), ratio(maxRatio, 1), ratio(1, maxRatio)}, true},
		{system(rows([]int{0, 0}), 2, 0), []impl.Ratio{ratio(maxRatio, 7), ratio(-1, maxRatio)}, true},
		// products that are no valid fractions
		{system(rows([]int{2, -2}), 2, 0), wholes(maxRatio, maxRatio), false},
		{system(rows([]int{2, 2}), 2, 0), wholes(maxRatio/2, -maxRatio/2), true},
		{system(rows([]int{0, 2, -2}), 3, 0), wholes(0, maxRatio, maxRatio), false},
		// sums on the way that are no valid fractions, though the last would be one
		{system(rows([]int{1, 1, 1}), 3, 1), wholes(maxRatio, 1, -maxRatio), false},
		{system(rows([]int{1, 1, 1}), 3, 1), wholes(maxRatio, -maxRatio, 1), true},
		{system(rows([]int{1, 1, 1}), 3, -1), wholes(-maxRatio, -1, maxRatio), false},
		{system(rows([]int{1, 1, 1, 1}), 4, 0), []impl.Ratio{ratio(1, maxRatio), ratio(1, 3), ratio(-1, maxRatio), ratio(-1, 3)}, false},
		{system(rows([]int{1, 1, 1, 1}), 4, 0), []impl.Ratio{ratio(1, maxRatio), ratio(-1, maxRatio), ratio(1, 3), ratio(-1, 3)}, true},
		{system(rows([]int{1, 1, 1}, []int{1, 0, 1}), 3, 1, 0), wholes(maxRatio, 1, -maxRatio), false},
		// a last sum that is none, and one beyond every value
		{system(rows([]int{1, 1}), 2, 0), wholes(maxRatio, maxRatio), false},
		{system(rows([]int{1, 1}), 2, 0), []impl.Ratio{ratio(1, maxRatio), ratio(1, 7)}, false},
		{system(rows([]int{1, 1}), 2, maxSum), wholes(maxSum, 1), false},
	}
	for _, c := range cases {
		if impl.FitsSystem(c.m, c.values, c.x) != c.want {
			t.Errorf("FitsSystem of %v, %v is not %t", c.measured, c.x, c.want)
		}
	}
}

func TestFitsSystemRejects(t *testing.T) {
	// The first column is not measured, so that its fraction would not show.
	s := system(rows([]int{0, 1}, []int{0, 2}), 2, 4, 8)
	if !impl.FitsSystem(s.m, s.values, wholes(3, 4)) {
		t.Error("a solution does not fit")
	}
	for _, bad := range invalidRatios {
		for _, x := range [][]impl.Ratio{{bad, ratio(4, 1)}, {ratio(3, 1), bad}, {bad, bad}} {
			if impl.FitsSystem(s.m, s.values, x) || impl.FitsSystem(nil, nil, x) {
				t.Errorf("%v fits", x)
			}
		}
	}
	for _, value := range []impl.Ratio{ratio(8, 2), ratio(-4, -1), ratio(12, 3)} {
		if impl.FitsSystem(s.m, s.values, []impl.Ratio{ratio(0, 1), value}) {
			t.Errorf("%v fits", value)
		}
	}
	for _, s := range slices.Concat(unsolvableSystems, notSystems()) {
		if impl.FitsSystem(s.m, s.values, slices.Repeat(wholes(0), min(max(s.cols, 0), maxCols+1))) {
			t.Errorf("zeros fit %v", s)
		}
	}
}

// TestFitsSystemOfSmallFractions has no sums that could leave their range.
func TestFitsSystemOfSmallFractions(t *testing.T) {
	fits := 0
	l := smallRatios()
	for n, s := range sheetsOfTwoRows() {
		if n%11 != 0 {
			continue
		}
		for _, a := range l {
			for _, b := range l {
				c := measured{s, []int{n%3 - 1, n / 11 % 5}}
				want := c.hasExactly([]impl.Ratio{a, b})
				if impl.FitsSystem(c.m, c.values, []impl.Ratio{a, b}) != want {
					t.Errorf("FitsSystem of %v, %v, %v is not %t", c, a, b, want)
				}
				if want {
					fits++
				}
			}
		}
	}
	if fits < 20 {
		t.Errorf("only %d solutions fit", fits)
	}
}

// systemFunctions are called with a system, a row and fractions; what they
// return is wiped out, spare room included.
var systemFunctions = []struct {
	name string
	call func(s measured, row []int, x []impl.Ratio)
}{
	{"IsSystem", func(s measured, row []int, x []impl.Ratio) { impl.IsSystem(s.m, s.values, s.cols) }},
	{"IsSolvable", func(s measured, row []int, x []impl.Ratio) { impl.IsSolvable(s.m, s.values, s.cols) }},
	{"ValueOf", func(s measured, row []int, x []impl.Ratio) { impl.ValueOf(s.m, s.values, row) }},
	{"SolutionOf", func(s measured, row []int, x []impl.Ratio) {
		got, _ := impl.SolutionOf(s.m, s.values, s.cols)
		clear(got[:cap(got)])
	}},
	{"FitsSystem", func(s measured, row []int, x []impl.Ratio) { impl.FitsSystem(s.m, s.values, x) }},
	{"TwoSolutions", func(s measured, row []int, x []impl.Ratio) {
		a, b, _ := impl.TwoSolutions(s.m, s.values, row)
		clear(a[:cap(a)])
		clear(b[:cap(b)])
	}},
}

func roomyRatios(x []impl.Ratio) ([]impl.Ratio, func() bool) {
	whole := append(slices.Clone(x), slices.Repeat(wholes(99), 16)...)
	before := slices.Clone(whole)
	return whole[:len(x)], func() bool { return slices.Equal(whole, before) }
}

func TestSystemFunctionsLeaveTheirArguments(t *testing.T) {
	for _, q := range manyInquiries() {
		x, ok := impl.SolutionOf(q.m, q.values, q.cols)
		if !ok {
			x = slices.Repeat(wholes(1), q.cols)
		}
		m, mUnchanged := roomyRows(q.m)
		values := slices.Clone(q.values)
		if len(m) > len(values) {
			values = append(values, values[0])
		}
		values, valuesUnchanged := roomy(values)
		row, rowUnchanged := roomy(q.row)
		x, xUnchanged := roomyRatios(x)
		for _, f := range systemFunctions {
			f.call(measured{sheet{m, q.cols}, values}, row, x)
			if !mUnchanged() || !valuesUnchanged() || !rowUnchanged() || !xUnchanged() {
				t.Fatalf("%s changes an argument: %v, %v or %v", f.name, q.measured, q.row, x)
			}
		}
	}
}

func TestSolutionsShareNoMemory(t *testing.T) {
	for _, q := range manyInquiries() {
		a, b, _ := impl.TwoSolutions(q.m, q.values, q.row)
		x, _ := impl.SolutionOf(q.m, q.values, q.cols)
		first, second := slices.Clone(a), slices.Clone(b)
		clear(x[:cap(x)])
		if !slices.Equal(a, first) || !slices.Equal(b, second) {
			t.Fatalf("SolutionOf and TwoSolutions of %v share memory", q.measured)
		}
		clear(a[:cap(a)])
		if !slices.Equal(b, second) {
			t.Fatalf("TwoSolutions of %v share memory", q.measured)
		}
		clear(b[:cap(b)])
		if a, b, _ := impl.TwoSolutions(q.m, q.values, q.row); !slices.Equal(a, first) || !slices.Equal(b, second) {
			t.Fatalf("TwoSolutions of %v keeps its results", q.measured)
		}
	}
}
