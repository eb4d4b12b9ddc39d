package tests

import (
	"math"
	"math/rand/v2"
	"slices"
	"testing"

	"loop.example/g00958/impl"
)

const maxTraces = impl.MaxTraces

// notHops are numbers of neither a node nor of one that did not answer.
var notHops = []int{-2, -3, -maxNodes, maxNodes, maxNodes + 1, 100, 1 << 32, 1<<32 + 2, -1 << 32, math.MinInt, math.MinInt + 1, math.MaxInt - 1, math.MaxInt}

// traced returns a trace for each list of hops.
func traced(lists ...[]int) []impl.Trace {
	l := []impl.Trace{}
	for _, hops := range lists {
		l = append(l, impl.Trace{Hops: hops})
	}
	return l
}

// links returns a link for each two numbers.
func links(ends ...int) []impl.Link {
	return joined(0, ends...).Links
}

// silent are traces in which nobody answers.
var silent = [][]impl.Trace{
	nil, {}, traced(nil), traced([]int{}), traced([]int{-1}), traced([]int{-1, -1}), traced(slices.Repeat([]int{-1}, maxNodes)),
	traced(nil, []int{}, nil), traced([]int{-1}, []int{-1}), traced([]int{-1, -1, -1}, nil, []int{-1}, slices.Repeat([]int{-1}, maxNodes)),
	make([]impl.Trace, maxTraces), slices.Repeat(traced([]int{-1, -1}), maxTraces), slices.Repeat(traced(slices.Repeat([]int{-1}, maxNodes)), maxTraces),
}

// spoken are valid traces in which somebody answers.
var spoken = [][]impl.Trace{
	traced([]int{0, 4, 1}, []int{2, -1, 3}, []int{1, 4, 2}),
	// one hop, also at its limits
	traced([]int{3}), traced([]int{0}), traced([]int{maxNodes - 1}), traced(nil, []int{5}, nil),
	// one of three hops at the limits
	traced([]int{-1, 4, 5}), traced([]int{3, -1, 5}), traced([]int{3, 4, -1}), traced([]int{0, 4, 5}), traced([]int{3, 0, 5}), traced([]int{3, 4, 0}),
	traced([]int{maxNodes - 1, 4, 5}), traced([]int{3, maxNodes - 1, 5}), traced([]int{3, 4, maxNodes - 1}),
	// as many hops as there may be, and as many traces
	traced(countTo(maxNodes)), traced([]int{7, 6, 5, 4, 3, 2, 1, 0}), traced([]int{3, 0, 7, 1, 6, 2, 5, 4}), traced([]int{-1, 0, -1, 1, -1, 2, -1, 3}), traced([]int{0, 1, 2, 3, 4, 5, 6, -1}), traced([]int{-1, 1, 2, 3, 4, 5, 6, 7}),
	slices.Repeat(traced([]int{0, 1}), maxTraces), slices.Repeat(traced(countTo(maxNodes)), maxTraces), traced([]int{0}, []int{1}, []int{2}, []int{3}, []int{4}, []int{5}, []int{6}, []int{7}),
	// several that did not answer
	traced([]int{-1, -1, 2}), traced([]int{2, -1, -1}), traced([]int{-1, 2, -1}), traced([]int{2, -1, -1, 5}), traced([]int{-1, -1, 0, 1, -1, -1, 2, -1}), traced([]int{-1}, []int{-1, 6}, []int{6, -1}),
	// a node in two traces
	traced([]int{2}, []int{2}), traced([]int{0, 1}, []int{1, 2}), traced([]int{0, 1}, []int{1, 0}), traced([]int{0, 1, 2}, []int{5, 0, 6}, []int{0}), traced([]int{7, -1}, nil, []int{-1, 7}),
}

// manyHops has more of them than a trace may have.
var manyHops = [][]int{
	slices.Repeat([]int{-1}, maxNodes+1), {0, 1, 2, 3, 4, 5, 6, 7, -1}, {-1, 7, 6, 5, 4, 3, 2, 1, 0}, {0, 1, 2, 3, -1, 4, 5, 6, 7}, {-1, -1, -1, -1, 3, -1, -1, -1, -1}, slices.Repeat([]int{-1}, 5000),
}

// twiceHops has one node at two places, or at more.
var twiceHops = [][]int{
	{0, 0}, {3, 3}, {7, 7}, {1, 3, 3}, {3, 3, 1}, {5, 3, 3, 1}, {3, 1, 3}, {0, 4, 0}, {7, 4, 7}, {3, -1, 3}, {0, -1, 0}, {-1, 3, 3}, {3, 3, -1},
	{3, 0, 1, 2, 4, 5, 6, 3}, {0, 1, 2, 3, 4, 5, 6, 0}, {3, -1, -1, -1, -1, -1, -1, 3}, {3, 1, 2, 3, 4, 5, 6, 7}, {7, 6, 5, 4, 3, 2, 1, 3}, {-1, 2, 5, -1, 2, 6, -1, 0}, {3, 3, 3}, slices.Repeat([]int{2}, maxNodes),
}

// badHops are lists of hops that no valid trace has, each for one reason alone.
func badHops() [][]int {
	l := slices.Concat(manyHops, twiceHops)
	for _, given := range [][]int{{3}, {-1}, {3, 4}, {3, 4, 5}, {3, -1, 5}, {-1, -1, -1}, countTo(maxNodes)} {
		for place := range given {
			for _, n := range notHops {
				hops := slices.Clone(given)
				hops[place] = n
				l = append(l, hops)
			}
		}
	}
	return l
}

// badTraces are no traces: there are too many of them, or one alone is none.
// Then each one is the first, one in the middle, or the last.
func badTraces() [][]impl.Trace {
	l := [][]impl.Trace{
		make([]impl.Trace, maxTraces+1), slices.Repeat(traced([]int{}), maxTraces+1), slices.Repeat(traced([]int{-1}), maxTraces+1), slices.Repeat(traced([]int{0, 1}), maxTraces+1),
		traced([]int{0}, []int{1}, []int{2}, []int{3}, []int{4}, []int{5}, []int{6}, []int{7}, nil), make([]impl.Trace, 5000),
	}
	for _, hops := range badHops() {
		others := traced([]int{0, 1}, []int{4, -1}, nil)
		l = append(l, traced(hops))
		for place := range len(others) + 1 {
			l = append(l, slices.Insert(slices.Clone(others), place, impl.Trace{Hops: hops}))
		}
	}
	return append(l, slices.Repeat(traced([]int{2, 2}), maxTraces), slices.Repeat(traced([]int{8}), maxTraces+1), append(slices.Repeat(traced([]int{0, 1}), maxTraces-1), traced([]int{1, -2})...))
}

// isTrace is what AreTraces should report of one trace.
func isTrace(hops []int) bool {
	for i, n := range hops {
		if n < -1 || n > 7 || n >= 0 && slices.Contains(hops[:i], n) {
			return false
		}
	}
	return len(hops) <= 8
}

// areTraced is what AreTraces should report.
func areTraced(l []impl.Trace) bool {
	return len(l) <= 8 && !slices.ContainsFunc(l, func(t impl.Trace) bool { return !isTrace(t.Hops) })
}

// manyTraces are valid ones, many with nodes that did not answer.
func manyTraces(seed uint64) [][]impl.Trace {
	random := rand.New(rand.NewPCG(seed, 958))
	all := slices.Concat(silent, spoken)
	for n := range 4000 {
		l := []impl.Trace{}
		for range random.IntN(n%maxTraces + 2) {
			hops := random.Perm(maxNodes)[:random.IntN(maxNodes+1)]
			for i := range hops {
				if random.IntN(6) < n%4 {
					hops[i] = -1
				}
			}
			l = append(l, impl.Trace{Hops: hops})
		}
		all = append(all, l)
	}
	return all
}

// isCrossed reports whether both nodes stand beside one another in a trace.
func isCrossed(l []impl.Trace, a, b int) bool {
	for _, t := range l {
		for i := range len(t.Hops) - 1 {
			pair := t.Hops[i : i+2]
			if slices.Equal(pair, []int{a, b}) || slices.Equal(pair, []int{b, a}) {
				return true
			}
		}
	}
	return false
}

// crossedOn is what MapOf should return for valid traces.
func crossedOn(l []impl.Trace) []impl.Link {
	crossed := []impl.Link{}
	for a := range maxNodes {
		for b := a + 1; b < maxNodes; b++ {
			if isCrossed(l, a, b) {
				crossed = append(crossed, impl.Link{A: a, B: b})
			}
		}
	}
	return crossed
}

func TestTraceLimit(t *testing.T) {
	if maxTraces != 8 {
		t.Errorf("MaxTraces is %d", maxTraces)
	}
}

func TestAreTraces(t *testing.T) {
	for _, l := range slices.Concat(silent, spoken, manyTraces(39)) {
		if !impl.AreTraces(l) {
			t.Errorf("%v are no traces", l)
		}
	}
	for _, l := range badTraces() {
		if impl.AreTraces(l) {
			t.Errorf("%v are traces", l)
		}
	}
}

func TestAreTracesOfAllShortOnes(t *testing.T) {
	for count := range 5 {
		for _, hops := range nextsOf(count, -2, maxNodes) {
			if l := traced(hops); impl.AreTraces(l) != isTrace(hops) {
				t.Fatalf("AreTraces(%v) is not %t", l, isTrace(hops))
			}
		}
	}
	for first := range 3 {
		for _, given := range nextsOf(first, -1, 1) {
			for _, other := range nextsOf(2, -1, 1) {
				l := traced(given, other)
				if want := isTrace(given) && isTrace(other); impl.AreTraces(l) != want {
					t.Fatalf("AreTraces(%v) is not %t", l, want)
				}
			}
		}
	}
}

func TestMapOf(t *testing.T) {
	cases := []struct {
		l    []impl.Trace
		want []impl.Link
	}{
		{traced([]int{0, 4, 1}, []int{2, -1, 3}, []int{1, 4, 2}), links(0, 4, 1, 4, 2, 4)},
		// no traces, and traces with one hop
		{nil, nil}, {[]impl.Trace{}, nil}, {traced(nil), nil}, {traced([]int{3}), nil}, {traced([]int{0}, []int{1}), nil}, {traced([]int{0}, nil, []int{7}), nil},
		// the last hop of a trace and the first one of the next do not follow one another
		{traced([]int{0, 1}, []int{2, 3}), links(0, 1, 2, 3)}, {traced([]int{1}, []int{2, 3}), links(2, 3)}, {traced([]int{2, 3}, []int{4}), links(2, 3)},
		// a node that did not answer between two, first and last
		{traced([]int{0, -1, 1}), nil}, {traced([]int{1, -1, 0}), nil}, {traced([]int{7, -1, -1, 2}), nil}, {traced([]int{-1, 3}), nil}, {traced([]int{3, -1}), nil}, {traced([]int{-1, 3, -1}), nil}, {traced([]int{0, -1}), nil}, {traced([]int{-1, 0}), nil}, {traced([]int{-1, 0, -1}), nil},
		{traced([]int{-1, 0, 1}), links(0, 1)}, {traced([]int{1, 0, -1}), links(0, 1)}, {traced([]int{0, 1, -1, 2, 3}), links(0, 1, 2, 3)}, {traced([]int{-1, 6, 5, -1, 4, -1}), links(5, 6)}, {traced([]int{-1, -1, 2, 0, -1, -1, 1, 3}), links(0, 2, 1, 3)},
		{traced([]int{0, -1, 1}, []int{0, 1}), links(0, 1)}, {traced([]int{1, 0}, []int{0, -1, 1}), links(0, 1)},
		// two nodes in both directions, and in two traces
		{traced([]int{0, 1}), links(0, 1)}, {traced([]int{1, 0}), links(0, 1)}, {traced([]int{0, 1}, []int{1, 0}), links(0, 1)}, {traced([]int{1, 0}, []int{0, 1}), links(0, 1)}, {traced([]int{3, 7}, []int{3, 7}), links(3, 7)}, {traced([]int{7, 3}, []int{7, 3}), links(3, 7)},
		{slices.Repeat(traced([]int{5, 0, 2}), maxTraces), links(0, 2, 0, 5)}, {traced([]int{2, 1, 0}, []int{0, 1, 2}), links(0, 1, 1, 2)}, {traced([]int{4, 2, 1, 0}, []int{3, 1, 2, 5}), links(0, 1, 1, 2, 1, 3, 2, 4, 2, 5)},
		// another order than by A and then by B
		{traced([]int{7, 6, 5, 4, 3, 2, 1, 0}), links(0, 1, 1, 2, 2, 3, 3, 4, 4, 5, 5, 6, 6, 7)}, {traced(countTo(maxNodes)), links(0, 1, 1, 2, 2, 3, 3, 4, 4, 5, 5, 6, 6, 7)}, {traced([]int{0, 7, 1, 6, 2, 5, 3, 4}), links(0, 7, 1, 6, 1, 7, 2, 5, 2, 6, 3, 4, 3, 5)},
		{traced([]int{5, 6}, []int{0, 1}), links(0, 1, 5, 6)}, {traced([]int{0, 3}, []int{0, 2}, []int{0, 1}), links(0, 1, 0, 2, 0, 3)}, {traced([]int{2, 3}, []int{0, 5}, []int{3, 1}, []int{0, 4}), links(0, 4, 0, 5, 1, 3, 2, 3)}, {traced([]int{1, 2}, []int{0, 7}), links(0, 7, 1, 2)}, {traced([]int{3, 0, 2, 1}), links(0, 2, 0, 3, 1, 2)},
		// one trace alone is none
		{traced([]int{0, 1}, []int{2, 2}), nil}, {traced([]int{2, 2}, []int{0, 1}), nil}, {traced([]int{0, 1}, []int{2, 8}, []int{3, 4}), nil}, {traced([]int{0, 1}, []int{2, 3}, []int{-2, 4}), nil}, {traced([]int{0, 1, 0}), nil}, {traced([]int{-2, 1}), nil}, {traced([]int{-2, 1, 2}), nil},
	}
	for _, c := range cases {
		if got := impl.MapOf(c.l); !slices.Equal(got, c.want) {
			t.Errorf("MapOf(%v) is %v, not %v", c.l, got, c.want)
		}
	}
	for _, l := range slices.Concat(silent, badTraces()) {
		if got := impl.MapOf(l); len(got) > 0 {
			t.Errorf("MapOf(%v) is %v", l, got)
		}
	}
}

// A map has every link that was crossed, and no other one.
func TestMapsHaveWhatWasCrossed(t *testing.T) {
	sizes := map[int]int{}
	for _, l := range manyTraces(40) {
		got, want := impl.MapOf(l), crossedOn(l)
		if !slices.Equal(got, want) {
			t.Fatalf("MapOf(%v) is %v, not %v", l, got, want)
		}
		for i, link := range got {
			if !isCrossed(l, link.A, link.B) || link.A >= link.B || i > 0 && (link.A < got[i-1].A || link.A == got[i-1].A && link.B <= got[i-1].B) {
				t.Fatalf("MapOf(%v) is %v, with the link %v", l, got, link)
			}
		}
		sizes[min(len(want), 15)]++
	}
	for size := range 16 {
		if sizes[size] < 20 {
			t.Errorf("only %d maps have %d links", sizes[size], size)
		}
	}
}

func TestMapsOfAllShortTraces(t *testing.T) {
	for count := range 6 {
		for _, hops := range nextsOf(count, -1, 4) {
			l, want := traced(hops), []impl.Link{}
			if isTrace(hops) {
				want = crossedOn(l)
			}
			if got := impl.MapOf(l); !slices.Equal(got, want) {
				t.Fatalf("MapOf(%v) is %v, not %v", l, got, want)
			}
		}
	}
}

// The order and the direction of traces do not matter.
func TestMapsOfTurnedTraces(t *testing.T) {
	random := rand.New(rand.NewPCG(41, 958))
	for _, l := range manyTraces(41) {
		other := []impl.Trace{}
		for _, i := range random.Perm(len(l)) {
			hops := slices.Clone(l[i].Hops)
			if random.IntN(2) == 0 {
				slices.Reverse(hops)
			}
			other = append(other, impl.Trace{Hops: hops})
		}
		if one, two := impl.MapOf(l), impl.MapOf(other); !slices.Equal(one, two) {
			t.Fatalf("MapOf(%v) is %v, but MapOf(%v) is %v", l, one, other, two)
		}
	}
}

func TestGapsIn(t *testing.T) {
	cases := []struct {
		l    []impl.Trace
		want int
	}{
		{traced([]int{0, 4, 1}, []int{2, -1, 3}, []int{1, 4, 2}), 1},
		{nil, 0}, {[]impl.Trace{}, 0}, {traced(nil), 0}, {traced([]int{}), 0}, {traced([]int{3}), 0}, {traced([]int{0}), 0}, {traced(countTo(maxNodes)), 0},
		// nobody answers
		{traced([]int{-1}), 1}, {traced([]int{-1, -1}), 2}, {traced([]int{-1}, []int{-1}), 2}, {traced([]int{-1, -1, -1}, nil, []int{-1}), 4}, {slices.Repeat(traced(slices.Repeat([]int{-1}, maxNodes)), maxTraces), 64},
		// somebody does
		{traced([]int{-1, 3}), 1}, {traced([]int{3, -1}), 1}, {traced([]int{-1, 3, -1, -1}), 3}, {traced([]int{-1, 3}, []int{3, -1}, []int{0, -1, -1, 1}), 4}, {slices.Repeat(traced([]int{-1, 0, -1, 1, -1, 2, -1, 3}), maxTraces), 32},
		// what are no traces
		{traced([]int{-2}), 0}, {traced([]int{-2, -1}), 1}, {traced([]int{-1, -2, -3, math.MinInt}), 1}, {traced([]int{8, -1, math.MaxInt, -1}), 2}, {traced([]int{0, -1, 0}), 1}, {traced([]int{2, 2}), 0}, {traced([]int{2, 2}, []int{-1}), 1}, {traced([]int{-1, -1}, []int{9}), 2},
		{traced(slices.Repeat([]int{-1}, maxNodes+1)), 9}, {slices.Repeat(traced([]int{-1}), maxTraces+1), 9}, {make([]impl.Trace, 5000), 0}, {traced(slices.Repeat([]int{-1, -2, 0}, 5000)), 5000}, {slices.Repeat(traced(slices.Repeat([]int{-1, 1}, 20), []int{-2}), 20), 400}, {traced(notHops), 0},
	}
	for _, c := range cases {
		if got := impl.GapsIn(c.l); got != c.want {
			t.Errorf("GapsIn(%v) is %d, not %d", c.l, got, c.want)
		}
	}
}

func TestGapsAreWhoDidNotAnswer(t *testing.T) {
	for _, l := range slices.Concat(manyTraces(42), badTraces()) {
		hops := 0
		answers := []int{}
		for _, trace := range l {
			hops += len(trace.Hops)
			answers = append(answers, slices.DeleteFunc(slices.Clone(trace.Hops), func(n int) bool { return n == -1 })...)
		}
		if got := impl.GapsIn(l); got != hops-len(answers) {
			t.Fatalf("GapsIn(%v) is %d, but %d of %d hops are answers", l, got, len(answers), hops)
		}
	}
}

// star has four hosts around the node 4.
var star = joined(5, 0, 4, 4, 1, 2, 4, 4, 3)

func TestFitsMap(t *testing.T) {
	line, whole := joined(maxNodes, 5, 6, 4, 5, 3, 4, 2, 3, 1, 2, 0, 1), joined(4, 0, 1, 0, 2, 0, 3, 1, 2, 1, 3, 2, 3)
	cases := []struct {
		x    impl.Net
		l    []impl.Trace
		want bool
	}{
		// every two hops are connected, whatever the direction
		{star, traced([]int{0, 4, 1}, []int{2, -1, 3}, []int{1, 4, 2}), true}, {star, traced([]int{0, 4}), true}, {star, traced([]int{4, 0}), true}, {star, traced([]int{1, 4}), true}, {star, traced([]int{3, 4, 2}, []int{2, 4, 3}), true},
		{line, traced([]int{0, 1, 2, 3, 4, 5, 6}), true}, {line, traced([]int{6, 5, 4, 3, 2, 1, 0}, []int{3, 2}), true}, {whole, traced([]int{0, 1, 2, 3}, []int{3, 0, 2, 1}), true}, {whole, slices.Repeat(traced([]int{2, 0, 3, 1}), maxTraces), true},
		// only the last two of the last trace are not, or only the first two of the first one
		{star, traced([]int{0, 4, 1}, []int{2, 4, 3}, []int{1, 4, 2, 3}), false}, {star, traced([]int{0, 4, 1}, []int{2, -1, 3}, []int{1, 0}), false}, {star, traced([]int{1, 0, 4}, []int{2, 4, 3}), false}, {star, traced([]int{0, 1}), false}, {line, traced([]int{0, 1, 2, 3, 4, 6}), false}, {line, traced([]int{1, 0, 2}), false}, {line, traced([]int{0, 2}), false},
		{star, traced([]int{0, 4}, []int{1, 2}, []int{4, 3}), false}, {star, traced([]int{0, 4, 1}, []int{-1, 2, 3, -1}), false}, {joined(4, 0, 1, 1, 2, 2, 3), traced([]int{0, 1, 2, 3}, []int{3, 0}), false},
		// a node that did not answer stands between two that are not connected
		{star, traced([]int{0, -1, 1}), true}, {star, traced([]int{0, -1, 1, 4, 2, -1, 3}), true}, {line, traced([]int{0, -1, 6}), true}, {line, traced([]int{-1, 0, -1, -1, 3, 4, -1, 6}), true}, {star, traced([]int{0, -1, 1, 2}), false}, {star, traced([]int{-1, 1, 2, -1}), false}, {star, traced([]int{0, -1, 4}), true}, {star, traced([]int{0, -1}), true}, {star, traced([]int{-1, 0}), true}, {star, traced([]int{4, 0, -1}), true},
		// nodes that the network does not have, alone, beside one that did not answer, and beside another node
		{star, traced([]int{5}), true}, {star, traced([]int{7}, []int{0, 4}), true}, {star, traced([]int{-1, 7}), true}, {star, traced([]int{7, -1}), true}, {star, traced([]int{-1, 6, -1}), true}, {star, traced([]int{0, 4, -1, 5}), true}, {joined(2, 0, 1), traced([]int{2}, []int{3, -1, 4}), true},
		{star, traced([]int{5, 4}), false}, {star, traced([]int{4, 5}), false}, {star, traced([]int{5, 6}), false}, {star, traced([]int{0, 4, 7}), false}, {line, traced([]int{6, 7}), false},
		// a trace ends where the next one does not begin
		{star, traced([]int{0}, []int{1}), true}, {star, traced([]int{0, 4}, []int{1}, []int{2, 4}), true},
	}
	for _, c := range cases {
		if impl.FitsMap(c.x, c.l) != c.want {
			t.Errorf("FitsMap(%v, %v) is not %t", c.x, c.l, c.want)
		}
	}
	for _, x := range nets {
		for _, l := range silent {
			if !impl.FitsMap(x, l) {
				t.Errorf("FitsMap(%v, %v) is false", x, l)
			}
		}
	}
}

func TestFitsMapOfNoNetOrNoTraces(t *testing.T) {
	noNets, noTraces := slices.Concat(strangeNets, notNets()), badTraces()
	fitting := append(slices.Clone(silent), traced([]int{0, 1}), traced([]int{1, 0, -1, 2}), traced([]int{3}))
	for i, x := range noNets {
		// Some of these would connect all that is on the traces.
		ownTraces := []impl.Trace{}
		for _, link := range x.Links[:min(len(x.Links), maxTraces)] {
			ownTraces = append(ownTraces, impl.Trace{Hops: []int{link.A, link.B}})
		}
		for _, l := range append(slices.Clone(fitting), ownTraces, noTraces[i%len(noTraces)]) {
			if impl.FitsMap(x, l) {
				t.Errorf("FitsMap(%v, %v) is true", x, l)
			}
		}
	}
	for i, l := range noTraces {
		for _, x := range append(slices.Clone(nets), star, noNets[i%len(noNets)]) {
			if impl.FitsMap(x, l) {
				t.Errorf("FitsMap(%v, %v) is true", x, l)
			}
		}
	}
	// These would fit if they were traces.
	for _, l := range [][]impl.Trace{traced([]int{0, 4, 0}), traced([]int{0, 4}, []int{4, 1, 4, 2}), traced([]int{0, -1, 0}), traced([]int{0, 4}, []int{-2}), traced([]int{8}), slices.Repeat(traced([]int{0, 4}), maxTraces+1), traced(slices.Repeat([]int{-1}, maxNodes+1))} {
		if impl.FitsMap(star, l) || impl.FitsMap(impl.Net{}, l) {
			t.Errorf("FitsMap of %v is true", l)
		}
	}
}

// connectsAll reports whether the network has each of the links.
func connectsAll(x impl.Net, l []impl.Link) bool {
	return !slices.ContainsFunc(l, func(link impl.Link) bool {
		return !slices.Contains(x.Links, link) && !slices.Contains(x.Links, turned(link))
	})
}

// walk returns the hops of a way through the network that meets no node twice,
// some of which did not answer.
func walk(random *rand.Rand, x impl.Net) []int {
	hops := []int{random.IntN(x.Nodes)}
	for range random.IntN(maxNodes) {
		next := random.IntN(x.Nodes)
		if !slices.Contains(hops, next) && connectsAll(x, links(hops[len(hops)-1], next)) {
			hops = append(hops, next)
		}
	}
	for i := range hops {
		if random.IntN(8) == 0 {
			hops[i] = -1
		}
	}
	return hops
}

func TestFitsMapExactlyIfTheMapIsInTheNet(t *testing.T) {
	random := rand.New(rand.NewPCG(43, 958))
	fitting, others := 0, 0
	for _, x := range slices.Concat(nets, manyNets(), smallNets()) {
		l := []impl.Trace{}
		for range random.IntN(maxTraces + 1) {
			l = append(l, impl.Trace{Hops: walk(random, x)})
		}
		if !impl.FitsMap(x, l) {
			t.Fatalf("FitsMap(%v, %v) is false", x, l)
		}
		if len(l) == 0 {
			continue
		}
		place := random.IntN(len(l))
		hops := slices.Clone(l[place].Hops)
		hops[random.IntN(len(hops))] = random.IntN(maxNodes)
		if l[place].Hops = hops; !isTrace(hops) {
			continue
		}
		want := connectsAll(x, impl.MapOf(l))
		if impl.FitsMap(x, l) != want {
			t.Fatalf("FitsMap(%v, %v) is not %t, but the map is %v", x, l, want, impl.MapOf(l))
		}
		if want {
			fitting++
		} else {
			others++
		}
	}
	if fitting < 200 || others < 200 {
		t.Errorf("only %d fit, or only %d do not", fitting, others)
	}
	for i, l := range manyTraces(44) {
		x := manyNets()[i%len(manyNets())]
		if want := connectsAll(x, crossedOn(l)); impl.FitsMap(x, l) != want {
			t.Fatalf("FitsMap(%v, %v) is not %t", x, l, want)
		}
	}
}

// A network that has just the links of a map fits the traces, and one of them
// less is too few.
func TestMapsAreTheLeastNets(t *testing.T) {
	tried := 0
	for _, l := range manyTraces(45) {
		crossed := impl.MapOf(l)
		if len(crossed) == 0 || len(crossed) > maxLinks {
			continue
		}
		tried++
		if x := (impl.Net{Nodes: maxNodes, Links: crossed}); !impl.FitsMap(x, l) {
			t.Fatalf("FitsMap(%v, %v) is false", x, l)
		}
		for i := range crossed {
			x := impl.Net{Nodes: maxNodes, Links: slices.Delete(slices.Clone(crossed), i, i+1)}
			if impl.FitsMap(x, l) {
				t.Fatalf("FitsMap(%v, %v) is true", x, l)
			}
		}
	}
	if tried < 500 {
		t.Errorf("only %d maps are small enough", tried)
	}
}

func TestHasCircle(t *testing.T) {
	few, many := math.MinInt, math.MaxInt
	cases := []struct {
		l    []impl.Link
		want bool
	}{
		{nil, false}, {[]impl.Link{}, false},
		// one link
		{links(0, 1), false}, {links(1, 0), false}, {links(7, 3), false},
		// of a node with itself, alone and after others
		{links(2, 2), true}, {links(0, 0), true}, {links(0, 1, 2, 2), true}, {links(0, 1, 1, 1), true}, {links(0, 1, 0, 0), true}, {links(2, 2, 0, 1), true}, {links(0, 1, 1, 2, 3, 4, 5, 5), true},
		// the same link twice, in one direction or in both
		{links(0, 1, 0, 1), true}, {links(0, 1, 1, 0), true}, {links(1, 0, 0, 1), true}, {links(0, 1, 2, 3, 0, 1), true}, {links(0, 1, 1, 2, 1, 0), true}, {links(2, 3, 0, 1, 3, 2), true}, {links(0, 1, 0, 1, 0, 1), true},
		// a circle of three, in every direction
		{links(0, 1, 1, 2, 2, 0), true}, {links(0, 1, 2, 1, 0, 2), true}, {links(1, 0, 1, 2, 0, 2), true}, {links(0, 1, 0, 2, 2, 1), true}, {links(2, 1, 1, 0, 2, 0), true}, {links(0, 1, 1, 2, 2, 0, 2, 3), true}, {links(2, 3, 0, 1, 1, 2, 2, 0), true},
		{links(0, 1, 1, 2, 0, 3), false}, {links(0, 1, 1, 2), false}, {links(0, 1, 0, 2, 0, 3, 0, 4), false}, {links(1, 0, 2, 0, 3, 0, 4, 0), false},
		// the last one of many closes it, or does not
		{links(0, 1, 1, 2, 2, 3, 3, 4, 4, 5, 5, 6, 6, 7, 7, 0), true}, {links(0, 1, 1, 2, 2, 3, 3, 4, 4, 5, 5, 6, 6, 7, 7, 3), true}, {links(0, 1, 1, 2, 2, 3, 3, 4, 4, 5, 5, 6, 6, 7, 7, 8), false}, {links(3, 4, 0, 1, 6, 7, 1, 2, 4, 5, 5, 6, 2, 3, 0, 7), true}, {links(3, 4, 0, 1, 6, 7, 1, 2, 4, 5, 5, 6, 2, 3, 9, 7), false},
		{links(0, 1, 0, 2, 0, 3, 0, 4, 0, 5, 2, 4), true}, {links(1, 0, 2, 0, 3, 0, 4, 0, 5, 0, 5, 1), true}, {links(0, 1, 1, 2, 2, 3, 3, 4, 0, 4), true},
		// two parts: without a circle, and with one in only one of them
		{links(0, 1, 2, 3), false}, {links(0, 1, 1, 2, 3, 4, 4, 5), false}, {links(0, 1, 3, 4, 1, 2, 4, 5), false}, {links(0, 1, 1, 2, 3, 4, 4, 5, 5, 3), true}, {links(3, 4, 0, 1, 4, 5, 1, 2, 3, 5), true}, {links(0, 1, 1, 2, 2, 0, 3, 4, 4, 5), true}, {links(0, 1, 2, 3, 2, 3), true},
		// links that join two parts, and one more that closes a circle through both
		{links(0, 1, 2, 3, 1, 2), false}, {links(0, 1, 2, 3, 0, 3), false}, {links(0, 1, 1, 2, 3, 4, 4, 5, 0, 5), false}, {links(0, 1, 1, 2, 3, 4, 4, 5, 1, 4), false}, {links(0, 1, 2, 3, 4, 5, 6, 7, 1, 2, 5, 6, 3, 4), false}, {links(0, 1, 2, 3, 4, 5, 6, 7, 1, 2, 5, 6, 3, 4, 0, 7), true},
		{links(0, 1, 2, 3, 1, 2, 3, 0), true}, {links(0, 1, 2, 3, 1, 2, 1, 3), true}, {links(0, 1, 1, 2, 3, 4, 4, 5, 0, 5, 2, 3), true},
		// nodes that no network has
		{links(-1, -2), false}, {links(-1, -1), true}, {links(-1, 0, 0, 1), false}, {links(-1, 0, 0, 1, 1, -1), true}, {links(-1, -2, -2, -3, -3, -1), true}, {links(-1, -2, -2, -1), true}, {links(8, 9, 9, 100, 100, 8), true}, {links(8, 9, 9, 100, 100, 10), false},
		{links(few, many), false}, {links(many, few, few, many), true}, {links(few, few), true}, {links(many, many), true}, {links(few, 0, 0, many), false}, {links(few, 0, 0, many, many, few), true}, {links(few, few+1, many-1, many), false}, {links(0, few, -1, many), false}, {links(1<<32, 0, 0, 1), false}, {links(1<<32, 0, 0, 1, 1, 1<<32), true}, {links(0, 1, 1<<32, 1), false},
		{links(-1, 1, 1, 2), false}, {links(-1, 1, 2, -1), false}, {links(-2, 2, 3, -3), false},
	}
	for _, c := range cases {
		if impl.HasCircle(c.l) != c.want {
			t.Errorf("HasCircle(%v) is not %t", c.l, c.want)
		}
	}
}

// returns reports whether some of the links, each used once, lead from a node
// to another one.
func returns(l []impl.Link, from, to int) bool {
	for i, link := range l {
		rest := slices.Delete(slices.Clone(l), i, i+1)
		for _, way := range []impl.Link{link, turned(link)} {
			if way.A == from && (way.B == to || returns(rest, way.B, to)) {
				return true
			}
		}
	}
	return false
}

// isCircled reports whether some of the links lead back to where they began.
func isCircled(l []impl.Link) bool {
	return slices.ContainsFunc(l, func(link impl.Link) bool { return returns(l, link.A, link.A) })
}

func TestHasCircleOfAllShortLists(t *testing.T) {
	all := links()
	for a := range 4 {
		for b := range 4 {
			all = append(all, impl.Link{A: a - 1, B: b - 1})
		}
	}
	for count := range 5 {
		for _, places := range nextsOf(count, 0, len(all)-1) {
			l := []impl.Link{}
			for _, i := range places {
				l = append(l, all[i])
			}
			if want := isCircled(l); impl.HasCircle(l) != want {
				t.Fatalf("HasCircle(%v) is not %t", l, want)
			}
		}
	}
}

// isPruned takes away links with an end that no other link has, one after
// another, and reports whether none is left.
func isPruned(l []impl.Link) bool {
	for left := slices.Clone(l); ; {
		ends := map[int]int{}
		for _, link := range left {
			ends[link.A]++
			ends[link.B]++
		}
		before := len(left)
		left = slices.DeleteFunc(left, func(link impl.Link) bool { return ends[link.A] == 1 || ends[link.B] == 1 })
		if len(left) == before {
			return before == 0
		}
	}
}

// tree returns links that join so many nodes without a circle, in any order.
func tree(random *rand.Rand, nodes []int) []impl.Link {
	l := []impl.Link{}
	for i := 1; i < len(nodes); i++ {
		link := impl.Link{A: nodes[i], B: nodes[random.IntN(i)]}
		if random.IntN(2) == 0 {
			link = turned(link)
		}
		l = append(l, link)
	}
	random.Shuffle(len(l), func(i, j int) { l[i], l[j] = l[j], l[i] })
	return l
}

func TestHasCircleOfTrees(t *testing.T) {
	random := rand.New(rand.NewPCG(46, 958))
	for n := range 3000 {
		nodes := distinct(random, 2+n%40, 1000)
		half := 1 + random.IntN(len(nodes)-1)
		parts := slices.Concat(tree(random, nodes[:half]), tree(random, nodes[half:]))
		random.Shuffle(len(parts), func(i, j int) { parts[i], parts[j] = parts[j], parts[i] })
		if impl.HasCircle(parts) || !isPruned(parts) {
			t.Fatalf("HasCircle(%v) is true", parts)
		}
		if l := append(parts, impl.Link{A: nodes[random.IntN(half)], B: nodes[half+random.IntN(len(nodes)-half)]}); impl.HasCircle(l) {
			t.Fatalf("HasCircle(%v) is true, but the last one joins two parts", l)
		}
		l := append(slices.Clone(parts), impl.Link{A: nodes[random.IntN(half)], B: nodes[random.IntN(half)]})
		random.Shuffle(len(l), func(i, j int) { l[i], l[j] = l[j], l[i] })
		if !impl.HasCircle(l) || isPruned(l) {
			t.Fatalf("HasCircle(%v) is false", l)
		}
	}
}

func TestHasCircleOfMapsAndNets(t *testing.T) {
	with, without := 0, 0
	count := func(l []impl.Link) {
		if want := !isPruned(l); impl.HasCircle(l) != want {
			t.Fatalf("HasCircle(%v) is not %t", l, want)
		}
		if impl.HasCircle(l) {
			with++
		} else {
			without++
		}
	}
	for _, l := range manyTraces(47) {
		count(impl.MapOf(l))
	}
	for _, x := range slices.Concat(manyNets(), smallNets(), strangeNets, notNets()) {
		count(x.Links)
	}
	if with < 1000 || without < 500 {
		t.Errorf("only %d have a circle, or only %d have none", with, without)
	}
}

// Lists as long as these are gone through in a moment, whatever their shape.
func TestHasCircleOfLongLists(t *testing.T) {
	const count = 100000
	shapes := map[string]func(i int) impl.Link{
		"a line":        func(i int) impl.Link { return impl.Link{A: i, B: i + 1} },
		"a star":        func(i int) impl.Link { return impl.Link{A: 0, B: i + 1} },
		"a turned star": func(i int) impl.Link { return impl.Link{A: i + 1, B: 0} },
		"a tree":        func(i int) impl.Link { return impl.Link{A: i / 2, B: i + 1} },
		"a turned line": func(i int) impl.Link { return impl.Link{A: i + 1, B: i} },
		"a zigzag":      func(i int) impl.Link { return impl.Link{A: i / 2 * 2, B: i + 1 + i%2} },
	}
	for name, shape := range shapes {
		l := []impl.Link{}
		for i := range count {
			l = append(l, shape(i))
		}
		for range 2 {
			if impl.HasCircle(l) {
				t.Errorf("%s has a circle", name)
			}
			if !impl.HasCircle(append(slices.Clone(l), impl.Link{A: 1, B: count / 2})) {
				t.Errorf("%s and a link of two of its nodes have no circle", name)
			}
			slices.Reverse(l)
		}
	}
}

// roomyTraces returns the traces with spare room behind each of them and behind
// them all, and what tells whether none of it has changed.
func roomyTraces(l []impl.Trace) ([]impl.Trace, func() bool) {
	whole, checks := []impl.Trace{}, []func() bool{}
	for _, trace := range append(slices.Clone(l), traced([]int{99}, []int{99, 99}, []int{99})...) {
		hops, areUnchanged := roomy(trace.Hops)
		whole, checks = append(whole, impl.Trace{Hops: hops}), append(checks, areUnchanged)
	}
	before := slices.Clone(whole)
	isSame := func(a, b impl.Trace) bool {
		return len(a.Hops) == len(b.Hops) && (len(a.Hops) == 0 || &a.Hops[0] == &b.Hops[0])
	}
	return whole[:len(l)], func() bool {
		return slices.EqualFunc(whole, before, isSame) && !slices.ContainsFunc(checks, func(c func() bool) bool { return !c() })
	}
}

func wipeLinks(l []impl.Link) {
	for i := range l {
		l[i] = impl.Link{A: -99, B: -99}
	}
}

// mapFunctions call each function and write to what it returns.
var mapFunctions = []struct {
	name string
	call func(x impl.Net, l []impl.Trace)
}{
	{"AreTraces", func(x impl.Net, l []impl.Trace) { impl.AreTraces(l) }},
	{"MapOf", func(x impl.Net, l []impl.Trace) { wipeLinks(impl.MapOf(l)) }},
	{"GapsIn", func(x impl.Net, l []impl.Trace) { impl.GapsIn(l) }},
	{"FitsMap", func(x impl.Net, l []impl.Trace) { impl.FitsMap(x, l) }},
	{"HasCircle", func(x impl.Net, l []impl.Trace) { impl.HasCircle(x.Links) }},
}

func TestMapFunctionsLeaveTheirArguments(t *testing.T) {
	someNets := slices.Concat(nets, strangeNets, notNets())
	for i, given := range slices.Concat(manyTraces(48), badTraces()) {
		x, isNetUnchanged := roomyLinks(someNets[i%len(someNets)])
		l, areTracesUnchanged := roomyTraces(given)
		for _, f := range mapFunctions {
			f.call(x, l)
			if !isNetUnchanged() || !areTracesUnchanged() {
				t.Fatalf("%s changes an argument: %v or %v", f.name, x, given)
			}
		}
	}
}

func TestMapsShareNoMemory(t *testing.T) {
	for _, given := range append(manyTraces(49), traced([]int{2, 2})) {
		l := []impl.Trace{}
		for _, trace := range given {
			l = append(l, impl.Trace{Hops: slices.Clone(trace.Hops)})
		}
		first, second := impl.MapOf(l), impl.MapOf(l)
		want := slices.Clone(first)
		wipeLinks(first)
		// What was passed in does not matter when the call has returned.
		for _, trace := range l {
			wipe(trace.Hops)
		}
		if !slices.Equal(second, want) || !slices.Equal(impl.MapOf(given), want) {
			t.Fatalf("the results of MapOf(%v) share memory", given)
		}
	}
}
