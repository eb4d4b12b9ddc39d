package tests

import (
	"math"
	"testing"

	"loop.example/g00958/impl"
)

func TestEqualInts(t *testing.T) {
	cases := []struct {
		a, b []int
		want bool
	}{
		{nil, nil, true},
		{nil, []int{}, true},
		{[]int{}, nil, true},
		{[]int{0}, nil, false},
		{nil, []int{0}, false},
		{[]int{5}, []int{5}, true},
		{[]int{5}, []int{-5}, false},
		{[]int{5, 300}, []int{5, 300}, true},
		{[]int{5, 300}, []int{300, 5}, false},
		{[]int{5, 300}, []int{5, 301}, false},
		{[]int{4, 300}, []int{5, 300}, false},
		{[]int{5, 300}, []int{5}, false},
		{[]int{5}, []int{5, 300}, false},
		{[]int{math.MinInt, math.MaxInt}, []int{math.MinInt, math.MaxInt}, true},
		{[]int{1 << 32}, []int{0}, false},
	}
	for _, c := range cases {
		if impl.EqualInts(c.a, c.b) != c.want {
			t.Errorf("EqualInts(%v, %v) is not %t", c.a, c.b, c.want)
		}
	}
}
