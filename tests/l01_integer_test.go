package tests

import (
	"math"
	"strings"
	"testing"

	"loop.example/g00958/impl"
)

func TestMaxValue(t *testing.T) {
	if impl.MaxValue != 1000000000000 {
		t.Errorf("MaxValue is %d", impl.MaxValue)
	}
}

func TestFormatInt(t *testing.T) {
	cases := []struct {
		n    int
		want string
	}{
		{0, "0"},
		{7, "7"},
		{10, "10"},
		{120, "120"},
		{-1, "-1"},
		{-3, "-3"},
		{-10, "-10"},
		{-120, "-120"},
		{impl.MaxValue, "1000000000000"},
		{impl.MaxValue + 1, "1000000000001"},
		{-impl.MaxValue, "-1000000000000"},
		{math.MaxInt32 + 1, "2147483648"},
		{math.MinInt32 - 1, "-2147483649"},
		{math.MaxInt, "9223372036854775807"},
		{math.MinInt, "-9223372036854775808"},
		{math.MinInt + 1, "-9223372036854775807"},
	}
	for _, c := range cases {
		if got := impl.FormatInt(c.n); got != c.want {
			t.Errorf("FormatInt(%d) is %q, not %q", c.n, got, c.want)
		}
	}
}

func TestParseIntAccepts(t *testing.T) {
	cases := []struct {
		s    string
		want int
	}{
		{"0", 0},
		{"1", 1},
		{"9", 9},
		{"10", 10},
		{"17", 17},
		{"100", 100},
		{"1234567890", 1234567890},
		{"4294967296", 4294967296},
		{"999999999999", impl.MaxValue - 1},
		{"1000000000000", impl.MaxValue},
	}
	for _, c := range cases {
		if n, ok := impl.ParseInt(c.s); n != c.want || !ok {
			t.Errorf("ParseInt(%q) is %d, %t", c.s, n, ok)
		}
	}
}

func TestParseIntInvertsFormatInt(t *testing.T) {
	check := func(n int) {
		if got, ok := impl.ParseInt(impl.FormatInt(n)); got != n || !ok {
			t.Errorf("ParseInt of the text of %d is %d, %t", n, got, ok)
		}
	}
	for n := range 12000 {
		check(n)
		check(impl.MaxValue - n)
	}
	for p := 10; p < impl.MaxValue; p *= 10 {
		check(p - 1)
		check(p)
		check(p + 1)
	}
}

func TestParseIntRejects(t *testing.T) {
	groups := map[string][]string{
		"empty":         {""},
		"leading zeros": {"00", "01", "017", "000", "0000000000000000000000001", "01000000000000"},
		"signs":         {"-1", "+1", "-0", "+0", "-", "+", "--1", "+-1", "1-", "1+", "-1000000000000"},
		"letters":       {"a", "x", "1x", "x1", "1a2", "O", "0x10", "0b1", "0o7", "1e3", "NaN", "Inf"},
		"other bytes":   {" ", " 1", "1 ", "1 2", "\t1", "1\n", "\x001", "1\x00", "1_000", "1,000", "1.0", "1.", ".1", "/", ":", "1/1", "\xff", "1\xff"},
		"other digits":  {"\u0663", "\uff11", "1\u0663", "\u00b2", "\u2212\u0031"},
		"too great":     {"1000000000001", "1000000000010", "9999999999999", "10000000000000", "9223372036854775807"},
		"wrapping":      {"9223372036854775808", "9223372036854775809", "18446744073709551615", "18446744073709551616", "18446744073709551617", "340282366920938463463374607431768211457"},
	}
	for name, texts := range groups {
		for _, s := range texts {
			if n, ok := impl.ParseInt(s); n != 0 || ok {
				t.Errorf("%s: ParseInt(%q) is %d, %t", name, s, n, ok)
			}
		}
	}
}

func TestParseIntRejectsLongTexts(t *testing.T) {
	const length = 100000
	texts := []string{
		strings.Repeat("9", length),
		strings.Repeat("0", length),
		strings.Repeat("0", length) + "1",
		"1" + strings.Repeat("0", length),
		"-" + strings.Repeat("1", length),
		"1" + strings.Repeat(" ", length),
		strings.Repeat(" ", length) + "1",
		strings.Repeat("z", length),
	}
	for i, s := range texts {
		if n, ok := impl.ParseInt(s); n != 0 || ok {
			t.Errorf("long text %d: ParseInt is %d, %t", i, n, ok)
		}
	}
	for length := 14; length <= 50; length++ {
		if n, ok := impl.ParseInt(strings.Repeat("1", length)); n != 0 || ok {
			t.Errorf("%d ones: ParseInt is %d, %t", length, n, ok)
		}
	}
}

// TestParseIntOfAllShortTexts holds every text of up to three bytes of a small
// alphabet against the texts of the numbers that have so few digits.
func TestParseIntOfAllShortTexts(t *testing.T) {
	want := map[string]int{}
	for n := range 1000 {
		want[impl.FormatInt(n)] = n
	}
	alphabet := "0123456789+-_ ax./:"
	texts := []string{""}
	for range 3 {
		var longer []string
		for _, s := range texts {
			for _, c := range alphabet {
				longer = append(longer, s+string(c))
			}
		}
		for _, s := range longer {
			n, ok := impl.ParseInt(s)
			if w, is := want[s]; n != w || ok != is {
				t.Errorf("ParseInt(%q) is %d, %t", s, n, ok)
			}
		}
		texts = longer
	}
}

func TestMinAndMax(t *testing.T) {
	cases := []struct{ a, b, least, greatest int }{
		{2, -1, -1, 2},
		{-1, 2, -1, 2},
		{3, 3, 3, 3},
		{0, 0, 0, 0},
		{0, 1, 0, 1},
		{1, 0, 0, 1},
		{-5, -4, -5, -4},
		{-4, -5, -5, -4},
		{impl.MaxValue, impl.MaxValue + 1, impl.MaxValue, impl.MaxValue + 1},
		{math.MinInt, math.MaxInt, math.MinInt, math.MaxInt},
		{math.MaxInt, math.MinInt, math.MinInt, math.MaxInt},
		{math.MinInt, math.MinInt, math.MinInt, math.MinInt},
		{math.MaxInt, math.MaxInt, math.MaxInt, math.MaxInt},
		{math.MinInt, 0, math.MinInt, 0},
		{math.MaxInt, -1, -1, math.MaxInt},
	}
	for _, c := range cases {
		if got := impl.Min(c.a, c.b); got != c.least {
			t.Errorf("Min(%d, %d) is %d", c.a, c.b, got)
		}
		if got := impl.Max(c.a, c.b); got != c.greatest {
			t.Errorf("Max(%d, %d) is %d", c.a, c.b, got)
		}
	}
}

func TestCeilDiv(t *testing.T) {
	const top = impl.MaxValue
	cases := []struct{ a, b, want int }{
		{7, 3, 3},
		{6, 3, 2},
		{0, 1, 0},
		{0, top, 0},
		{1, 1, 1},
		{1, top, 1},
		{top - 1, top, 1},
		{top, top, 1},
		{top, top - 1, 2},
		{top, 1, top},
		{top, 2, 500000000000},
		{top - 1, 2, 500000000000},
		{top, 3, 333333333334},
	}
	for _, c := range cases {
		if got := impl.CeilDiv(c.a, c.b); got != c.want {
			t.Errorf("CeilDiv(%d, %d) is %d, not %d", c.a, c.b, got, c.want)
		}
	}
	for a := range 60 {
		for b := 1; b < 60; b++ {
			c := impl.CeilDiv(a, b)
			if c*b < a || (c-1)*b >= a {
				t.Errorf("CeilDiv(%d, %d) is %d", a, b, c)
			}
		}
	}
}

func TestCeilDivOutsideItsRange(t *testing.T) {
	const top = impl.MaxValue
	cases := []struct{ a, b int }{
		{-1, 1},
		{-7, 3},
		{-6, -3},
		{top + 1, 1},
		{top + 1, top},
		{math.MaxInt, 1},
		{math.MaxInt, math.MaxInt},
		{math.MinInt, 1},
		{math.MinInt, -1},
		{0, 0},
		{1, 0},
		{top, 0},
		{7, -3},
		{1, top + 1},
		{top, top + 1},
		{1, math.MaxInt},
		{1, math.MinInt},
	}
	for _, c := range cases {
		if got := impl.CeilDiv(c.a, c.b); got != 0 {
			t.Errorf("CeilDiv(%d, %d) is %d, not 0", c.a, c.b, got)
		}
	}
}

func TestMod(t *testing.T) {
	const top = impl.MaxValue
	cases := []struct{ p, q, want int }{
		{15, 7, 1},
		{-1, 7, 6},
		{-6, 7, 1},
		{-7, 7, 0},
		{-8, 7, 6},
		{0, 7, 0},
		{6, 7, 6},
		{7, 7, 0},
		{5, 1, 0},
		{-5, 1, 0},
		{top, top, 0},
		{top - 1, top, top - 1},
		{top + 1, top, 1},
		{-1, top, top - 1},
		{-top, top, 0},
		{math.MaxInt, top, 36854775807},
		{math.MinInt, top, 963145224192},
		{math.MaxInt, 1, 0},
		{math.MinInt, 1, 0},
		{math.MinInt, 2, 0},
		{math.MaxInt, 2, 1},
	}
	for _, c := range cases {
		if got := impl.Mod(c.p, c.q); got != c.want {
			t.Errorf("Mod(%d, %d) is %d, not %d", c.p, c.q, got, c.want)
		}
	}
	for p := -60; p <= 60; p++ {
		for q := 1; q <= 25; q++ {
			r := impl.Mod(p, q)
			if r < 0 || r >= q || (p-r)%q != 0 {
				t.Errorf("Mod(%d, %d) is %d", p, q, r)
			}
		}
	}
}

func TestModOutsideItsRange(t *testing.T) {
	for _, p := range []int{0, 1, 3, -1, impl.MaxValue, math.MaxInt, math.MinInt} {
		for _, q := range []int{0, -1, -7, impl.MaxValue + 1, -impl.MaxValue, math.MaxInt, math.MinInt} {
			if got := impl.Mod(p, q); got != 0 {
				t.Errorf("Mod(%d, %d) is %d, not 0", p, q, got)
			}
		}
	}
}

func TestInRange(t *testing.T) {
	cases := []struct {
		n, low, high int
		want         bool
	}{
		{2, 1, 3, true},
		{2, 2, 3, true},
		{3, 2, 3, true},
		{1, 2, 3, false},
		{4, 2, 3, false},
		{2, 2, 2, true},
		{1, 2, 2, false},
		{3, 2, 2, false},
		{2, 3, 1, false},
		{3, 3, 1, false},
		{1, 3, 1, false},
		{0, -1, 1, true},
		{-1, -1, 1, true},
		{-2, -1, 1, false},
		{math.MinInt, math.MinInt, math.MaxInt, true},
		{math.MaxInt, math.MinInt, math.MaxInt, true},
		{0, math.MinInt, math.MaxInt, true},
		{0, math.MaxInt, math.MinInt, false},
		{math.MinInt, math.MaxInt, math.MinInt, false},
		{math.MaxInt, math.MinInt, math.MaxInt - 1, false},
		{math.MinInt, math.MinInt + 1, math.MaxInt, false},
	}
	for _, c := range cases {
		if got := impl.InRange(c.n, c.low, c.high); got != c.want {
			t.Errorf("InRange(%d, %d, %d) is %t", c.n, c.low, c.high, got)
		}
	}
}
