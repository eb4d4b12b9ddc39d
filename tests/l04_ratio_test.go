package tests

import (
	"math"
	"math/big"
	"slices"
	"testing"

	"loop.example/g00958/impl"
)

const maxRatio = impl.MaxRatio

func ratio(n, d int) impl.Ratio {
	return impl.Ratio{Num: n, Den: d}
}

// invalidRatios are fractions that are not valid, those of the first rows only
// because they are not reduced.
var invalidRatios = []impl.Ratio{
	{Num: 2, Den: 4}, {Num: -2, Den: 4}, {Num: 6, Den: 3}, {Num: 3, Den: 3}, {Num: -3, Den: 3}, {Num: 35, Den: 49},
	{Num: maxRatio, Den: maxRatio}, {Num: -maxRatio, Den: maxRatio}, {Num: maxRatio - 1, Den: maxRatio - 1}, {Num: maxRatio, Den: 2}, {Num: 5, Den: maxRatio}, {Num: maxRatio - 1, Den: 3},
	{Num: 0, Den: 2}, {Num: 0, Den: maxRatio},
	{}, {Num: 1, Den: 0}, {Num: -1, Den: 0}, {Num: maxRatio, Den: 0}, {Num: math.MinInt, Den: 0},
	{Num: 0, Den: -1}, {Num: 1, Den: -1}, {Num: -1, Den: -1}, {Num: 1, Den: -2}, {Num: 1, Den: -maxRatio}, {Num: 1, Den: -maxRatio - 1},
	{Num: 1, Den: maxRatio + 1}, {Num: 0, Den: maxRatio + 1}, {Num: maxRatio, Den: maxRatio + 1}, {Num: 1, Den: math.MaxInt}, {Num: 1, Den: math.MinInt},
	{Num: maxRatio + 1, Den: 1}, {Num: -maxRatio - 1, Den: 1}, {Num: maxRatio + 1, Den: maxRatio}, {Num: 2 * maxRatio, Den: 3},
	{Num: math.MaxInt, Den: 1}, {Num: math.MinInt, Den: 1}, {Num: math.MinInt, Den: 3}, {Num: math.MaxInt, Den: 2},
	{Num: math.MinInt, Den: math.MinInt}, {Num: math.MaxInt, Den: math.MaxInt}, {Num: math.MinInt, Den: -1}, {Num: math.MinInt, Den: maxRatio},
}

// smallRatios returns the reduced fractions of small parts.
func smallRatios() []impl.Ratio {
	var l []impl.Ratio
	for n := -7; n <= 7; n++ {
		for d := 1; d <= 7; d++ {
			if isReduced(n, d) {
				l = append(l, ratio(n, d))
			}
		}
	}
	return l
}

// greatRatios returns the reduced fractions of parts at which a result could
// leave its range, or an int.
func greatRatios() []impl.Ratio {
	parts := []int{1, 2, 7, 512, 31622, 31623, 1953125, 142857143, maxRatio/2 - 1, maxRatio / 2, maxRatio/2 + 1, maxRatio - 2, maxRatio - 1, maxRatio}
	l := []impl.Ratio{ratio(0, 1)}
	for _, n := range parts {
		for _, d := range parts {
			if isReduced(n, d) {
				l = append(l, ratio(n, d), ratio(-n, d))
			}
		}
	}
	return l
}

func isReduced(n, d int) bool {
	return new(big.Int).GCD(nil, nil, big.NewInt(int64(max(n, -n))), big.NewInt(int64(d))).Int64() == 1
}

func TestMaxRatio(t *testing.T) {
	if impl.MaxRatio != 1000000000 {
		t.Errorf("MaxRatio is %d", impl.MaxRatio)
	}
}

func TestIsRatio(t *testing.T) {
	valid := []impl.Ratio{
		{Num: 0, Den: 1}, {Num: 1, Den: 1}, {Num: -1, Den: 1}, {Num: 3, Den: 2}, {Num: -3, Den: 2}, {Num: 2, Den: 3}, {Num: 35, Den: 48},
		{Num: maxRatio, Den: 1}, {Num: -maxRatio, Den: 1}, {Num: 1, Den: maxRatio}, {Num: -1, Den: maxRatio}, {Num: maxRatio, Den: 3}, {Num: maxRatio - 1, Den: 2},
		{Num: maxRatio - 1, Den: maxRatio}, {Num: maxRatio, Den: maxRatio - 1}, {Num: -maxRatio, Den: maxRatio - 1}, {Num: -maxRatio + 1, Den: maxRatio},
	}
	for _, r := range slices.Concat(valid, smallRatios(), greatRatios()) {
		if !impl.IsRatio(r) {
			t.Errorf("%v is not valid", r)
		}
	}
	for _, r := range invalidRatios {
		if impl.IsRatio(r) {
			t.Errorf("%v is valid", r)
		}
	}
}

// TestIsRatioOfSmallParts finds the common divisors by trying each of them.
func TestIsRatioOfSmallParts(t *testing.T) {
	for n := -30; n <= 30; n++ {
		for d := -5; d <= 30; d++ {
			want := d >= 1
			for c := 2; c <= d; c++ {
				want = want && (n%c != 0 || d%c != 0)
			}
			if impl.IsRatio(ratio(n, d)) != want {
				t.Errorf("IsRatio(%d/%d) is not %t", n, d, want)
			}
		}
	}
}

func TestMakeRatio(t *testing.T) {
	cases := []struct {
		n, d int
		want impl.Ratio
	}{
		{3, 2, ratio(3, 2)},
		{12, 8, ratio(3, 2)},
		{-12, 8, ratio(-3, 2)},
		{12, -8, ratio(-3, 2)},
		{-12, -8, ratio(3, 2)},
		{8, 12, ratio(2, 3)},
		{8, 4, ratio(2, 1)},
		{4, 8, ratio(1, 2)},
		{7, 7, ratio(1, 1)},
		{7, -7, ratio(-1, 1)},
		{1, -1, ratio(-1, 1)},
		{0, 1, ratio(0, 1)},
		{0, -1, ratio(0, 1)},
		{0, 6, ratio(0, 1)},
		{0, -6, ratio(0, 1)},
		{0, maxRatio, ratio(0, 1)},
		{0, -maxRatio, ratio(0, 1)},
		{maxRatio, 1, ratio(maxRatio, 1)},
		{-maxRatio, 1, ratio(-maxRatio, 1)},
		{maxRatio, -1, ratio(-maxRatio, 1)},
		{-maxRatio, -1, ratio(maxRatio, 1)},
		{1, maxRatio, ratio(1, maxRatio)},
		{1, -maxRatio, ratio(-1, maxRatio)},
		{-1, -maxRatio, ratio(1, maxRatio)},
		{maxRatio, maxRatio, ratio(1, 1)},
		{-maxRatio, maxRatio, ratio(-1, 1)},
		{maxRatio, -maxRatio, ratio(-1, 1)},
		{-maxRatio, -maxRatio, ratio(1, 1)},
		{maxRatio - 1, maxRatio, ratio(maxRatio-1, maxRatio)},
		{-maxRatio, maxRatio - 1, ratio(-maxRatio, maxRatio-1)},
		{maxRatio, 2, ratio(maxRatio/2, 1)},
		{2, -maxRatio, ratio(-1, maxRatio/2)},
		{512, maxRatio, ratio(1, 1953125)},
	}
	for _, c := range cases {
		if got, ok := impl.MakeRatio(c.n, c.d); got != c.want || !ok {
			t.Errorf("MakeRatio(%d, %d) is %v, %t", c.n, c.d, got, ok)
		}
	}
	for n := -40; n <= 40; n++ {
		for d := -40; d <= 40; d++ {
			got, ok := impl.MakeRatio(n, d)
			if d != 0 && (!ok || !impl.IsRatio(got) || got.Num*d != n*got.Den) {
				t.Errorf("MakeRatio(%d, %d) is %v, %t", n, d, got, ok)
			}
		}
	}
}

func TestMakeRatioRejects(t *testing.T) {
	outside := []int{maxRatio + 1, -maxRatio - 1, 2 * maxRatio, -2 * maxRatio, math.MaxInt, math.MinInt, math.MinInt + 1}
	inside := []int{0, 1, -1, 2, maxRatio, -maxRatio}
	reject := func(n, d int) {
		if got, ok := impl.MakeRatio(n, d); got != ratio(0, 0) || ok {
			t.Errorf("MakeRatio(%d, %d) is %v, %t", n, d, got, ok)
		}
	}
	for _, n := range slices.Concat(inside, outside) {
		reject(n, 0)
		for _, d := range outside {
			reject(n, d)
			reject(d, n)
		}
	}
}

// A ratioOperation is reckoned by the program and, without a limit to the numbers
// on the way, by big fractions.
type ratioOperation struct {
	name  string
	apply func(a, b impl.Ratio) (impl.Ratio, bool)
	exact func(a, b *big.Rat) *big.Rat
}

var ratioOperations = []ratioOperation{
	{"AddRatios", impl.AddRatios, func(a, b *big.Rat) *big.Rat { return new(big.Rat).Add(a, b) }},
	{"TimesRatios", impl.TimesRatios, func(a, b *big.Rat) *big.Rat { return new(big.Rat).Mul(a, b) }},
}

func exactOf(r impl.Ratio) *big.Rat {
	return big.NewRat(int64(r.Num), int64(r.Den))
}

// ratioOf returns the fraction, which is reduced already, if its parts are in
// range.
func ratioOf(x *big.Rat) (impl.Ratio, bool) {
	limit := big.NewInt(maxRatio)
	if x.Num().CmpAbs(limit) > 0 || x.Denom().Cmp(limit) > 0 {
		return ratio(0, 0), false
	}
	return ratio(int(x.Num().Int64()), int(x.Denom().Int64())), true
}

func TestRatioOperationsAreExact(t *testing.T) {
	l := slices.Concat(smallRatios(), greatRatios())
	for _, o := range ratioOperations {
		for _, a := range l {
			for _, b := range l {
				want, is := ratioOf(o.exact(exactOf(a), exactOf(b)))
				if got, ok := o.apply(a, b); got != want || ok != is {
					t.Errorf("%s(%v, %v) is %v, %t, not %v, %t", o.name, a, b, got, ok, want, is)
				}
			}
		}
	}
}

func TestRatioOperationsDoNotDependOnTheOrder(t *testing.T) {
	l := slices.Concat([]impl.Ratio{ratio(1, 2), ratio(-3, 4), ratio(5, 1)}, greatRatios(), invalidRatios)
	for _, o := range ratioOperations {
		for _, a := range l {
			for _, b := range l {
				x, okX := o.apply(a, b)
				y, okY := o.apply(b, a)
				if x != y || okX != okY {
					t.Errorf("%s(%v, %v) is %v, %t, but %v, %t the other way", o.name, a, b, x, okX, y, okY)
				}
			}
		}
	}
}

func TestRatioOperationsRejectInvalidFractions(t *testing.T) {
	for _, o := range ratioOperations {
		for _, bad := range invalidRatios {
			for _, other := range slices.Concat([]impl.Ratio{ratio(0, 1), ratio(1, 1), ratio(-1, 2), ratio(maxRatio, 1)}, invalidRatios) {
				for _, pair := range [][2]impl.Ratio{{bad, other}, {other, bad}} {
					if got, ok := o.apply(pair[0], pair[1]); got != ratio(0, 0) || ok {
						t.Errorf("%s(%v, %v) is %v, %t", o.name, pair[0], pair[1], got, ok)
					}
				}
			}
		}
	}
}

// A combination has two valid fractions and what an operation makes of them:
// the zero fraction if that is not valid.
type combination struct{ a, b, want impl.Ratio }

func checkCombinations(t *testing.T, o ratioOperation, cases []combination) {
	for _, c := range cases {
		if got, ok := o.apply(c.a, c.b); got != c.want || ok != (c.want != ratio(0, 0)) {
			t.Errorf("%s(%v, %v) is %v, %t, not %v", o.name, c.a, c.b, got, ok, c.want)
		}
	}
}

func TestAddRatios(t *testing.T) {
	checkCombinations(t, ratioOperations[0], []combination{
		{ratio(1, 2), ratio(1, 3), ratio(5, 6)},
		{ratio(1, 6), ratio(1, 3), ratio(1, 2)},
		{ratio(1, 2), ratio(1, 2), ratio(1, 1)},
		{ratio(-3, 4), ratio(1, 4), ratio(-1, 2)},
		{ratio(0, 1), ratio(-3, 4), ratio(-3, 4)},
		// 0
		{ratio(0, 1), ratio(0, 1), ratio(0, 1)},
		{ratio(1, 2), ratio(-1, 2), ratio(0, 1)},
		{ratio(-maxRatio, 1), ratio(maxRatio, 1), ratio(0, 1)},
		{ratio(1-maxRatio, maxRatio), ratio(maxRatio-1, maxRatio), ratio(0, 1)},
		// Num at its limits and beyond them
		{ratio(maxRatio-1, 1), ratio(1, 1), ratio(maxRatio, 1)},
		{ratio(maxRatio, 1), ratio(1, 1), ratio(0, 0)},
		{ratio(1-maxRatio, 1), ratio(-1, 1), ratio(-maxRatio, 1)},
		{ratio(-maxRatio, 1), ratio(-1, 1), ratio(0, 0)},
		{ratio(maxRatio-2, 3), ratio(2, 3), ratio(maxRatio, 3)},
		{ratio(maxRatio, 3), ratio(1, 3), ratio(0, 0)},
		{ratio(2-maxRatio, 3), ratio(-2, 3), ratio(-maxRatio, 3)},
		{ratio(-maxRatio, 3), ratio(-1, 3), ratio(0, 0)},
		{ratio(maxRatio, 1), ratio(1, maxRatio), ratio(0, 0)},
		// Den at its limit and beyond it
		{ratio(1, 512), ratio(1, 1953125), ratio(1953637, maxRatio)},
		{ratio(1, 7), ratio(1, 142857143), ratio(0, 0)},
		{ratio(1, maxRatio), ratio(1, maxRatio-1), ratio(0, 0)},
		// in range only by reducing
		{ratio(maxRatio-1, maxRatio), ratio(1, maxRatio), ratio(1, 1)},
		{ratio(maxRatio-1, maxRatio), ratio(maxRatio-1, maxRatio), ratio(maxRatio-1, maxRatio/2)},
		{ratio(1-maxRatio, maxRatio), ratio(1-maxRatio, maxRatio), ratio(1-maxRatio, maxRatio/2)},
		{ratio(maxRatio, maxRatio-1), ratio(-1, maxRatio-1), ratio(1, 1)},
		{ratio(maxRatio, maxRatio-1), ratio(maxRatio-2, maxRatio-1), ratio(2, 1)},
		{ratio(-maxRatio, maxRatio-1), ratio(2-maxRatio, maxRatio-1), ratio(-2, 1)},
		{ratio(maxRatio, 3), ratio(2, 3), ratio((maxRatio+2)/3, 1)},
		{ratio(maxRatio-1, 2), ratio(maxRatio-1, 2), ratio(maxRatio-1, 1)},
	})
}

func TestTimesRatios(t *testing.T) {
	checkCombinations(t, ratioOperations[1], []combination{
		{ratio(2, 3), ratio(-3, 4), ratio(-1, 2)},
		{ratio(-2, 3), ratio(-3, 4), ratio(1, 2)},
		{ratio(2, 3), ratio(5, 7), ratio(10, 21)},
		{ratio(2, 3), ratio(3, 2), ratio(1, 1)},
		{ratio(-3, 4), ratio(1, 1), ratio(-3, 4)},
		// 0
		{ratio(0, 1), ratio(0, 1), ratio(0, 1)},
		{ratio(0, 1), ratio(-3, 4), ratio(0, 1)},
		{ratio(0, 1), ratio(1, maxRatio), ratio(0, 1)},
		{ratio(-maxRatio, 1), ratio(0, 1), ratio(0, 1)},
		// Num at its limits and beyond them
		{ratio(512, 1), ratio(1953125, 1), ratio(maxRatio, 1)},
		{ratio(7, 1), ratio(142857143, 1), ratio(0, 0)},
		{ratio(-512, 3), ratio(1953125, 1), ratio(-maxRatio, 3)},
		{ratio(7, 3), ratio(-142857143, 1), ratio(0, 0)},
		{ratio(maxRatio, 1), ratio(2, 1), ratio(0, 0)},
		{ratio(maxRatio, 1), ratio(maxRatio, 1), ratio(0, 0)},
		{ratio(-maxRatio, 1), ratio(maxRatio, 1), ratio(0, 0)},
		// Den at its limit and beyond it
		{ratio(1, 512), ratio(1, 1953125), ratio(1, maxRatio)},
		{ratio(1, 7), ratio(1, 142857143), ratio(0, 0)},
		{ratio(-1, 512), ratio(3, 1953125), ratio(-3, maxRatio)},
		{ratio(1, maxRatio), ratio(-1, 2), ratio(0, 0)},
		{ratio(1, maxRatio), ratio(1, maxRatio), ratio(0, 0)},
		// in range only by reducing
		{ratio(maxRatio-1, maxRatio), ratio(maxRatio, maxRatio-1), ratio(1, 1)},
		{ratio(1-maxRatio, maxRatio), ratio(maxRatio, maxRatio-1), ratio(-1, 1)},
		{ratio(maxRatio, 1), ratio(1, maxRatio), ratio(1, 1)},
		{ratio(maxRatio, 1), ratio(maxRatio-1, maxRatio), ratio(maxRatio-1, 1)},
		{ratio(-maxRatio, 1), ratio(-1, maxRatio), ratio(1, 1)},
		{ratio(maxRatio, maxRatio-1), ratio(maxRatio-1, 7), ratio(maxRatio, 7)},
		{ratio(7, maxRatio-1), ratio(maxRatio-1, maxRatio), ratio(7, maxRatio)},
		{ratio(maxRatio-1, maxRatio), ratio(maxRatio/2, 3), ratio(333333333, 2)},
	})
}

func TestNegRatio(t *testing.T) {
	cases := [][2]impl.Ratio{
		{ratio(3, 2), ratio(-3, 2)},
		{ratio(-3, 2), ratio(3, 2)},
		{ratio(0, 1), ratio(0, 1)},
		{ratio(5, 1), ratio(-5, 1)},
		{ratio(maxRatio, 1), ratio(-maxRatio, 1)},
		{ratio(-maxRatio, 1), ratio(maxRatio, 1)},
		{ratio(-1, maxRatio), ratio(1, maxRatio)},
		{ratio(maxRatio-1, maxRatio), ratio(1-maxRatio, maxRatio)},
	}
	for _, c := range cases {
		if got := impl.NegRatio(c[0]); got != c[1] {
			t.Errorf("NegRatio(%v) is %v", c[0], got)
		}
	}
	for _, r := range invalidRatios {
		if got := impl.NegRatio(r); got != ratio(0, 0) {
			t.Errorf("NegRatio(%v) is %v", r, got)
		}
	}
	for _, r := range slices.Concat(smallRatios(), greatRatios()) {
		n := impl.NegRatio(r)
		if sum, ok := impl.AddRatios(r, n); sum != ratio(0, 1) || !ok || impl.NegRatio(n) != r {
			t.Errorf("NegRatio(%v) is %v", r, n)
		}
	}
}

func TestCompareRatios(t *testing.T) {
	cases := []struct {
		a, b impl.Ratio
		want int
	}{
		{ratio(1, 3), ratio(1, 2), -1},
		{ratio(-1, 3), ratio(-1, 2), 1},
		{ratio(-1, 2), ratio(1, 3), -1},
		{ratio(0, 1), ratio(1, maxRatio), -1},
		{ratio(0, 1), ratio(-1, maxRatio), 1},
		{ratio(2, 1), ratio(3, 2), 1},
		{ratio(3, 1), ratio(4, 1), -1},
		{ratio(-maxRatio, 1), ratio(maxRatio, 1), -1},
		// a difference of about 1 over the square of MaxRatio, or 1 over MaxRatio
		{ratio(maxRatio-2, maxRatio-1), ratio(maxRatio-1, maxRatio), -1},
		{ratio(2-maxRatio, maxRatio-1), ratio(1-maxRatio, maxRatio), 1},
		{ratio(maxRatio, maxRatio-1), ratio(maxRatio-1, maxRatio-2), -1},
		{ratio(1, maxRatio), ratio(1, maxRatio-1), -1},
		{ratio(-1, maxRatio), ratio(-1, maxRatio-1), 1},
		{ratio(maxRatio/2, maxRatio-1), ratio(1, 2), 1},
		{ratio(maxRatio/2-1, maxRatio-1), ratio(1, 2), -1},
		// a difference that is no valid fraction because it is too great
		{ratio(maxRatio, 1), ratio(-1, 1), 1},
		{ratio(-maxRatio, 1), ratio(maxRatio, maxRatio-1), -1},
	}
	for _, c := range cases {
		if got := impl.CompareRatios(c.a, c.b); got != c.want {
			t.Errorf("CompareRatios(%v, %v) is %d", c.a, c.b, got)
		}
		if got := impl.CompareRatios(c.b, c.a); got != -c.want {
			t.Errorf("CompareRatios(%v, %v) is %d", c.b, c.a, got)
		}
	}
}

func TestCompareRatiosOfInvalidFractions(t *testing.T) {
	for _, bad := range invalidRatios {
		for _, other := range slices.Concat([]impl.Ratio{ratio(0, 1), ratio(1, 3), ratio(maxRatio, 1), ratio(-maxRatio, 1), ratio(1-maxRatio, maxRatio)}, invalidRatios) {
			if impl.CompareRatios(bad, other) != 0 || impl.CompareRatios(other, bad) != 0 {
				t.Errorf("%v and %v are compared", bad, other)
			}
		}
	}
}

// TestRatioComparisonIsTheSignOfTheDifference also holds each comparison against
// the exact one, because the difference is not always a valid fraction.
func TestRatioComparisonIsTheSignOfTheDifference(t *testing.T) {
	valid, equal := 0, 0
	l := slices.Concat(smallRatios(), greatRatios())
	for _, a := range l {
		for _, b := range l {
			got := impl.CompareRatios(a, b)
			if want := exactOf(a).Cmp(exactOf(b)); got != want {
				t.Errorf("CompareRatios(%v, %v) is %d, not %d", a, b, got, want)
			}
			difference, ok := impl.AddRatios(a, impl.NegRatio(b))
			if !ok {
				continue
			}
			valid++
			if difference.Num == 0 {
				equal++
			}
			if got != big.NewInt(int64(difference.Num)).Sign() || got != impl.CompareRatios(difference, ratio(0, 1)) {
				t.Errorf("CompareRatios(%v, %v) is %d, but the difference is %v", a, b, got, difference)
			}
		}
	}
	if equal == 0 || valid < 10*equal {
		t.Errorf("only %d differences are valid, %d of them 0", valid, equal)
	}
}

func TestFormatRatio(t *testing.T) {
	cases := []struct {
		r    impl.Ratio
		want string
	}{
		{ratio(0, 1), "0"},
		{ratio(5, 1), "5"},
		{ratio(-5, 1), "-5"},
		{ratio(3, 2), "3/2"},
		{ratio(-3, 2), "-3/2"},
		{ratio(1, 10), "1/10"},
		{ratio(maxRatio, 1), "1000000000"},
		{ratio(-maxRatio, 1), "-1000000000"},
		{ratio(-1, maxRatio), "-1/1000000000"},
		{ratio(1-maxRatio, maxRatio), "-999999999/1000000000"},
		{ratio(maxRatio, maxRatio-1), "1000000000/999999999"},
	}
	for _, c := range cases {
		if got := impl.FormatRatio(c.r); got != c.want {
			t.Errorf("FormatRatio(%v) is %q, not %q", c.r, got, c.want)
		}
	}
	for _, r := range invalidRatios {
		if got := impl.FormatRatio(r); got != "" {
			t.Errorf("FormatRatio(%v) is %q", r, got)
		}
	}
}
