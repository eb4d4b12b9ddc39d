package tests

import (
	"math"
	"math/big"
	"math/rand/v2"
	"slices"
	"testing"

	"loop.example/g00958/impl"
)

const (
	maxBranches = impl.MaxBranches
	maxTries    = impl.MaxTries
	flowCount   = 10000
)

var (
	// notNodes are numbers of no node, and notFlows of no flow.
	notNodes = []int{-1, -2, maxNodes, maxNodes + 1, 100, 1 << 32, -1 << 32, math.MinInt, math.MinInt + 1, math.MaxInt - 1, math.MaxInt}
	notFlows = []int{-1, -2, -flowCount, flowCount, flowCount + 1, 1 << 32, -1 << 32, math.MinInt, math.MinInt + 1, math.MaxInt - 1, math.MaxInt}

	// notWays are counts of ways that no branch has.
	notWays     = []int{0, -1, -2, maxBranches + 1, maxBranches + 2, 100, 1 << 32, 1<<32 + 2, math.MinInt, math.MaxInt}
	notTries    = []int{-1, -2, maxTries + 1, maxTries + 2, 100, 1 << 32, 1<<32 + 2, math.MinInt, math.MaxInt}
	notPercents = []int{-1, -2, 101, 102, 10000, 1 << 32, 1<<32 + 50, math.MinInt, math.MaxInt}
)

func branch(node int, nexts ...int) impl.Branch {
	return impl.Branch{Node: node, Nexts: nexts}
}

// goodBranches are valid, each for what it has at a limit or may look wrong.
var goodBranches = []impl.Branch{
	branch(4, 7, 2, 5), branch(4, 2, 5, 7), branch(4, 7, 5, 2), branch(3, 1, 0), branch(3, 0, 1),
	// one way, and as many as there may be
	branch(0, 0), branch(0, 7), branch(7, 0), branch(7, 7), branch(5, 3), branch(0, 1, 2, 3, 4), branch(7, 7, 6, 5, 4), branch(2, 6, 0, 7, 1),
	// one of Nexts is the node
	branch(4, 4), branch(4, 4, 2, 5), branch(4, 7, 4, 5), branch(4, 7, 2, 4), branch(0, 3, 0), branch(7, 1, 2, 3, 7),
	// Node, and one of Nexts at each place, at its limits
	branch(0, 3, 4, 5), branch(7, 3, 4, 5), branch(1, 0, 4, 5), branch(1, 3, 0, 5), branch(1, 3, 4, 0), branch(1, 7, 4, 5), branch(1, 3, 7, 5), branch(1, 3, 4, 7),
	branch(1, 0, 4, 5, 6), branch(1, 3, 0, 5, 6), branch(1, 3, 4, 0, 6), branch(1, 3, 4, 5, 0), branch(1, 0, 7), branch(1, 7, 0), branch(0, 7, 0), branch(7, 7, 0),
}

// badBranches are refused, each for one reason alone. The last ones are far too
// many.
func badBranches() []impl.Branch {
	l := []impl.Branch{
		// no Nexts, and too many
		{}, {Node: 3}, {Node: 3, Nexts: []int{}}, branch(7), branch(5, 0, 1, 2, 3, 4), branch(0, 7, 6, 5, 4, 3), branch(1, 0, 1, 2, 3, 4, 5, 6, 7),
		// two equal Nexts next to each other, and far apart
		branch(5, 1, 1), branch(5, 0, 0), branch(5, 7, 7), branch(5, 5, 5), branch(5, 1, 1, 2), branch(5, 1, 2, 2), branch(5, 1, 1, 2, 3), branch(5, 1, 2, 2, 3), branch(5, 1, 2, 3, 3),
		branch(5, 1, 2, 1), branch(5, 0, 7, 0), branch(5, 5, 4, 5), branch(5, 1, 2, 1, 3), branch(5, 1, 2, 3, 2), branch(5, 1, 2, 3, 1),
		branch(5, 2, 2, 2), branch(5, 2, 2, 2, 2), branch(5, 1, 2, 1, 2),
	}
	for _, given := range []impl.Branch{branch(4, 2), branch(4, 2, 5), branch(4, 7, 2, 5), branch(1, 3, 4, 5, 6)} {
		for _, n := range notNodes {
			l = append(l, impl.Branch{Node: n, Nexts: given.Nexts})
			for place := range given.Nexts {
				nexts := slices.Clone(given.Nexts)
				nexts[place] = n
				l = append(l, impl.Branch{Node: given.Node, Nexts: nexts})
			}
		}
	}
	return append(l, branch(4, countTo(5000)...), branch(4, slices.Repeat([]int{2}, 5000)...))
}

// isFork is what IsBranch should report.
func isFork(b impl.Branch) bool {
	for i, n := range b.Nexts {
		if n < 0 || n > 7 || slices.Contains(b.Nexts[:i], n) {
			return false
		}
	}
	return len(b.Nexts) >= 1 && len(b.Nexts) <= 4 && b.Node >= 0 && b.Node <= 7
}

// nextsOf returns all lists of as many numbers from low to high.
func nextsOf(count, low, high int) [][]int {
	if count == 0 {
		return [][]int{{}}
	}
	l := [][]int{}
	for _, before := range nextsOf(count-1, low, high) {
		for n := low; n <= high; n++ {
			l = append(l, append(slices.Clone(before), n))
		}
	}
	return l
}

// smallBranches returns all valid branches at a few nodes.
func smallBranches() []impl.Branch {
	l := slices.Clone(goodBranches)
	for count := range maxBranches + 1 {
		for _, nexts := range nextsOf(count, 0, maxNodes-1) {
			for _, node := range []int{0, 3, maxNodes - 1} {
				if b := branch(node, nexts...); isFork(b) {
					l = append(l, b)
				}
			}
		}
	}
	return l
}

// wayOf is what NextFor should return at a valid branch.
func wayOf(b impl.Branch, flow int) int {
	if flow < 0 || flow > 9999 {
		return -1
	}
	return b.Nexts[hashByBig([]int{b.Node, flow})%len(b.Nexts)]
}

// allFlows returns each flow once, in ascending order.
func allFlows() []int {
	return countTo(flowCount)
}

func TestBranchLimits(t *testing.T) {
	if maxBranches != 4 || maxTries != 20 {
		t.Errorf("MaxBranches is %d, and MaxTries %d", maxBranches, maxTries)
	}
}

func TestIsBranch(t *testing.T) {
	for _, b := range goodBranches {
		if !impl.IsBranch(b) {
			t.Errorf("%v is no branch", b)
		}
	}
	for _, b := range badBranches() {
		if impl.IsBranch(b) {
			t.Errorf("%v is a branch", b)
		}
	}
}

func TestIsBranchOfAllSmallOnes(t *testing.T) {
	valid := 0
	for count := range maxBranches + 1 {
		for _, nexts := range nextsOf(count, -1, maxNodes) {
			for node := -1; node <= maxNodes; node++ {
				b := branch(node, nexts...)
				if impl.IsBranch(b) != isFork(b) {
					t.Fatalf("IsBranch(%v) is not %t", b, isFork(b))
				}
				if isFork(b) {
					valid++
				}
			}
		}
	}
	// 8 nodes, and choices of 1 to 4 of 8 numbers, in any order
	if want := 8 * (8 + 8*7 + 8*7*6 + 8*7*6*5); valid != want {
		t.Errorf("%d branches are valid, not %d", valid, want)
	}
}

func TestNextFor(t *testing.T) {
	cases := []struct {
		b           impl.Branch
		flow, index int
	}{
		// The hashes of node 0 and the flows 0 to 3 are 667760217 to 667760220.
		{branch(0, 6, 5, 4, 3), 0, 1}, {branch(0, 6, 5, 4, 3), 1, 2}, {branch(0, 6, 5, 4, 3), 2, 3}, {branch(0, 6, 5, 4, 3), 3, 0},
		{branch(0, 6, 5, 4), 0, 0}, {branch(0, 6, 5, 4), 1, 1}, {branch(0, 6, 5, 4), 2, 2}, {branch(0, 6, 5), 0, 1}, {branch(0, 6, 5), 1, 0},
		// those of node 4 are 671760229 to 671760232, and 671770227 and 671770228 of the last flows
		{branch(4, 7, 2, 5), 0, 1}, {branch(4, 7, 2, 5), 1, 2}, {branch(4, 7, 2, 5), 2, 0}, {branch(4, 7, 2, 5), 3, 1},
		{branch(4, 7, 2, 5), 9998, 0}, {branch(4, 7, 2, 5), 9999, 1}, {branch(4, 7, 2), 9998, 1}, {branch(4, 7, 2, 5, 1), 9998, 3}, {branch(4, 7, 2, 5, 1), 9999, 0},
		// the index, not the number, follows from the hash
		{branch(4, 2, 5, 7), 0, 1}, {branch(4, 5, 7, 2), 0, 1}, {branch(4, 5, 2, 7), 1, 2}, {branch(4, 0, 1, 2), 2, 0}, {branch(4, 2, 1, 0), 2, 0},
		// one way, also back to the node, and a node among several ways
		{branch(7, 3), 0, 0}, {branch(7, 3), 1, 0}, {branch(7, 3), 9999, 0}, {branch(7, 7), 5000, 0}, {branch(0, 0), 9999, 0}, {branch(0, 0), 0, 0}, {branch(4, 7, 4, 5), 0, 1},
		// the last node
		{branch(7, 1, 2, 3, 0), 0, 2}, {branch(7, 1, 2, 3, 0), 1, 3}, {branch(7, 1, 2, 3, 0), 9998, 0}, {branch(7, 1, 2, 3), 9999, 1},
	}
	for _, c := range cases {
		if got, want := impl.NextFor(c.b, c.flow), c.b.Nexts[c.index]; got != want {
			t.Errorf("NextFor(%v, %d) is %d, not %d", c.b, c.flow, got, want)
		}
	}
}

func TestNextForFollowsTheHash(t *testing.T) {
	flows := append([]int{0, 1, 2, 3, 9998, 9999}, notFlows...)
	for _, b := range smallBranches() {
		for _, flow := range flows {
			if got, want := impl.NextFor(b, flow), wayOf(b, flow); got != want {
				t.Fatalf("NextFor(%v, %d) is %d, not %d", b, flow, got, want)
			}
		}
	}
	for _, b := range goodBranches {
		for _, flow := range allFlows() {
			if got, want := impl.NextFor(b, flow), wayOf(b, flow); got != want {
				t.Fatalf("NextFor(%v, %d) is %d, not %d", b, flow, got, want)
			}
		}
	}
}

func TestNextForOfNoBranchOrNoFlow(t *testing.T) {
	for _, b := range goodBranches {
		for _, flow := range notFlows {
			if got := impl.NextFor(b, flow); got != -1 {
				t.Errorf("NextFor(%v, %d) is %d", b, flow, got)
			}
		}
	}
	for _, b := range badBranches() {
		for _, flow := range append([]int{0, 1, 2, 3, 5000, 9999}, notFlows...) {
			if got := impl.NextFor(b, flow); got != -1 {
				t.Errorf("NextFor(%v, %d) is %d", b, flow, got)
			}
		}
	}
}

// What other branches and flows were asked for in between does not matter, and
// neither does whether a flow is read alone or with others.
func TestFlowsKeepTheirWay(t *testing.T) {
	random := rand.New(rand.NewPCG(37, 958))
	first := map[int][]int{}
	for i, b := range goodBranches {
		for _, flow := range allFlows() {
			first[i] = append(first[i], impl.NextFor(b, flow))
		}
	}
	for range 200000 {
		i, flow := random.IntN(len(goodBranches)), random.IntN(flowCount)
		b, want := goodBranches[i], first[i][flow]
		if got := impl.NextFor(b, flow); got != want || !slices.Contains(b.Nexts, got) {
			t.Fatalf("NextFor(%v, %d) is %d, and was %d", b, flow, got, want)
		}
		if got := impl.SeenNexts(b, []int{flow}); !slices.Equal(got, []int{want}) {
			t.Fatalf("SeenNexts(%v, %d) is %v, but NextFor was %d", b, flow, got, want)
		}
	}
}

func TestFlowsKeepTheIndexInAnotherOrder(t *testing.T) {
	moved := 0
	for _, nexts := range nextsOf(maxBranches, 0, maxBranches-1) {
		given, other := branch(6, 7, 0, 3, 4), branch(6)
		for _, place := range nexts {
			other.Nexts = append(other.Nexts, given.Nexts[place])
		}
		if !isFork(other) {
			continue
		}
		for flow := range 40 {
			a, b := impl.NextFor(given, flow), impl.NextFor(other, flow)
			if slices.Index(given.Nexts, a) != slices.Index(other.Nexts, b) {
				t.Fatalf("flow %d takes %d of %v, but %d of %v", flow, a, given.Nexts, b, other.Nexts)
			}
			if a != b {
				moved++
			}
		}
	}
	if moved < 100 {
		t.Errorf("only %d flows take another way", moved)
	}
}

// seenBy returns the nodes that some flow leads to, in ascending order.
func seenBy(b impl.Branch, flows []int) []int {
	seen := []int{}
	for n := range maxNodes {
		if slices.ContainsFunc(flows, func(flow int) bool { return wayOf(b, flow) == n }) {
			seen = append(seen, n)
		}
	}
	return seen
}

func TestSeenNexts(t *testing.T) {
	b, one, last := branch(4, 7, 2, 5), branch(7, 3), branch(0, 6, 5, 4, 3)
	cases := []struct {
		b     impl.Branch
		flows []int
		want  []int
	}{
		// no flows
		{b, nil, nil}, {b, []int{}, nil}, {one, nil, nil}, {last, []int{}, nil},
		// one flow, once and several times
		{b, []int{0}, []int{2}}, {b, []int{1}, []int{5}}, {b, []int{2}, []int{7}}, {b, []int{9999}, []int{2}}, {last, []int{3}, []int{6}},
		{b, []int{0, 0, 0}, []int{2}}, {b, slices.Repeat([]int{1}, 5000), []int{5}}, {b, []int{0, 3}, []int{2}}, {b, []int{3, 0, 9999, 0}, []int{2}},
		// two ways and all of them, in every order of the flows
		{b, []int{0, 2}, []int{2, 7}}, {b, []int{2, 0}, []int{2, 7}}, {b, []int{2, 1, 2}, []int{5, 7}}, {b, []int{1, 0, 1, 3, 1}, []int{2, 5}},
		{b, []int{0, 1, 2}, []int{2, 5, 7}}, {b, []int{2, 1, 0}, []int{2, 5, 7}}, {b, []int{1, 2, 0, 2, 1, 3}, []int{2, 5, 7}}, {b, allFlows(), []int{2, 5, 7}},
		{last, []int{0, 1, 2, 3}, []int{3, 4, 5, 6}}, {last, []int{3, 2, 1, 0}, []int{3, 4, 5, 6}}, {last, []int{3, 1}, []int{4, 6}}, {last, allFlows(), []int{3, 4, 5, 6}},
		{branch(0, 3, 0, 7, 4), []int{0, 1, 2, 3}, []int{0, 3, 4, 7}}, {branch(0, 3, 0, 7, 4), []int{0}, []int{0}}, {branch(0, 3, 0, 7, 4), []int{1, 0}, []int{0, 7}},
		// all flows out of range, and some of them
		{b, []int{-1}, nil}, {b, []int{10000}, nil}, {b, []int{-1, 10000}, nil}, {b, notFlows, nil}, {one, []int{-1, 10000, -1}, nil}, {last, notFlows, nil},
		{b, []int{-1, 0}, []int{2}}, {b, []int{0, -1}, []int{2}}, {b, []int{10000, 2, -1, 0, math.MinInt}, []int{2, 7}}, {b, append([]int{1}, notFlows...), []int{5}},
		{branch(0, 3, 0, 7, 4), []int{-1, 0, 10000}, []int{0}}, {last, []int{-1, 9999, 10000}, []int{6}}, {last, []int{-1, 0, 0, 10000, -1}, []int{5}},
		// one way
		{one, []int{0}, []int{3}}, {one, []int{9999, 0, 17}, []int{3}}, {one, []int{-1, 5}, []int{3}}, {one, allFlows(), []int{3}}, {branch(0, 0), []int{1, 2}, []int{0}}, {branch(7, 7), allFlows(), []int{7}},
	}
	for _, c := range cases {
		if got := impl.SeenNexts(c.b, c.flows); !slices.Equal(got, c.want) {
			t.Errorf("SeenNexts(%v, %v) is %v, not %v", c.b, c.flows, got, c.want)
		}
	}
}

func TestSeenNextsOfManyFlows(t *testing.T) {
	random := rand.New(rand.NewPCG(38, 958))
	sizes := map[int]int{}
	for n, b := range smallBranches() {
		flows := []int{}
		for range n % 7 {
			flows = append(flows, random.IntN(flowCount+4)-2)
		}
		want := seenBy(b, flows)
		if got := impl.SeenNexts(b, flows); !slices.Equal(got, want) {
			t.Fatalf("SeenNexts(%v, %v) is %v, not %v", b, flows, got, want)
		}
		sizes[len(want)]++
	}
	for size := range maxBranches + 1 {
		if sizes[size] < 50 {
			t.Errorf("only %d times %d ways are seen", sizes[size], size)
		}
	}
	for _, b := range goodBranches {
		all := slices.Clone(b.Nexts)
		slices.Sort(all)
		if got := impl.SeenNexts(b, slices.Concat(allFlows(), notFlows)); !slices.Equal(got, all) {
			t.Errorf("SeenNexts(%v) of all flows is %v", b, got)
		}
	}
}

func TestSeenNextsOfNoBranch(t *testing.T) {
	for _, b := range badBranches() {
		for _, flows := range [][]int{nil, {}, {0}, {-1}, {-1, 0, 1, 2, 3, 9999, 10000}, {5, 5}} {
			if got := impl.SeenNexts(b, flows); len(got) != 0 {
				t.Errorf("SeenNexts(%v, %v) is %v", b, flows, got)
			}
		}
	}
}

func TestMissBound(t *testing.T) {
	cases := []struct{ n, tries, missed, all int }{
		{2, 3, 2, 8}, {3, 2, 12, 9}, {4, 3, 108, 64}, {3, 10, 3072, 59049},
		// one way: missed without a try, and never with one
		{1, 0, 1, 1}, {1, 1, 0, 1}, {1, 2, 0, 1}, {1, 19, 0, 1}, {1, 20, 0, 1},
		{2, 0, 2, 1}, {2, 1, 2, 2}, {2, 2, 2, 4}, {2, 19, 2, 524288}, {2, 20, 2, 1048576},
		{3, 0, 3, 1}, {3, 1, 6, 3}, {3, 19, 1572864, 1162261467}, {3, 20, 3145728, 3486784401},
		{4, 0, 4, 1}, {4, 1, 12, 4}, {4, 2, 36, 16}, {4, 19, 4649045868, 274877906944}, {4, 20, 13947137604, 1099511627776},
		// beyond the limits, each alone and both together
		{0, 1, 1, 1}, {-1, 1, 1, 1}, {5, 1, 1, 1}, {0, 0, 1, 1}, {5, 0, 1, 1}, {5, 20, 1, 1}, {2, -1, 1, 1}, {2, 21, 1, 1}, {1, -1, 1, 1}, {1, 21, 1, 1}, {4, -1, 1, 1}, {4, 21, 1, 1},
		{0, -1, 1, 1}, {0, 21, 1, 1}, {-1, -1, 1, 1}, {-1, 21, 1, 1}, {5, -1, 1, 1}, {5, 21, 1, 1},
	}
	for _, c := range cases {
		if missed, all := impl.MissBound(c.n, c.tries); missed != c.missed || all != c.all {
			t.Errorf("MissBound(%d, %d) is %d and %d, not %d and %d", c.n, c.tries, missed, all, c.missed, c.all)
		}
	}
	checkNoBound := func(n, tries int) {
		if missed, all := impl.MissBound(n, tries); missed != 1 || all != 1 {
			t.Errorf("MissBound(%d, %d) is %d and %d", n, tries, missed, all)
		}
	}
	for _, n := range notWays {
		for _, tries := range append(countTo(maxTries+1), notTries...) {
			checkNoBound(n, tries)
		}
	}
	for n := 1; n <= maxBranches; n++ {
		for _, tries := range notTries {
			checkNoBound(n, tries)
		}
	}
}

// exactBound is MissBound with numbers of any size.
func exactBound(n, tries int) (*big.Int, *big.Int) {
	exponent := big.NewInt(int64(tries))
	missed := new(big.Int).Exp(big.NewInt(int64(n-1)), exponent, nil)
	return missed.Mul(missed, big.NewInt(int64(n))), new(big.Int).Exp(big.NewInt(int64(n)), exponent, nil)
}

func TestMissBoundIsExact(t *testing.T) {
	for n := 1; n <= maxBranches; n++ {
		for tries := range maxTries + 1 {
			wantMissed, wantAll := exactBound(n, tries)
			missed, all := impl.MissBound(n, tries)
			if wantMissed.Cmp(big.NewInt(int64(missed))) != 0 || wantAll.Cmp(big.NewInt(int64(all))) != 0 {
				t.Errorf("MissBound(%d, %d) is %d and %d, not %d and %d", n, tries, missed, all, wantMissed, wantAll)
			}
		}
	}
}

// Of all ways that so many flows can take, those that miss one are counted.
func TestMissBoundBoundsTheChance(t *testing.T) {
	for n := 1; n <= maxBranches; n++ {
		for tries := range 7 {
			missing, ways := 0, nextsOf(tries, 0, n-1)
			for _, taken := range ways {
				if len(setIn(taken)) < n {
					missing++
				}
			}
			missed, all := impl.MissBound(n, tries)
			if missing > missed || len(ways) != all {
				t.Errorf("%d of %d lists of %d flows miss one of %d ways, but MissBound is %d and %d", missing, len(ways), tries, n, missed, all)
			}
		}
	}
}

func setIn(l []int) map[int]bool {
	set := map[int]bool{}
	for _, n := range l {
		set[n] = true
	}
	return set
}

func TestMoreTriesNeverMissMore(t *testing.T) {
	for n := 1; n <= maxBranches; n++ {
		for tries := range maxTries {
			missed, all := impl.MissBound(n, tries)
			nextMissed, nextAll := impl.MissBound(n, tries+1)
			before, after := big.NewRat(int64(missed), int64(all)), big.NewRat(int64(nextMissed), int64(nextAll))
			if after.Cmp(before) > 0 {
				t.Errorf("%d ways: %s after %d tries, and %s after the next one", n, before, tries, after)
			}
		}
	}
}

func TestTriesFor(t *testing.T) {
	cases := []struct{ n, percent, want int }{
		// one way: no try only where all may be missed
		{1, 0, 1}, {1, 1, 1}, {1, 50, 1}, {1, 99, 1}, {1, 100, 0},
		{2, 0, -1}, {2, 1, 8}, {2, 2, 7}, {2, 3, 7}, {2, 5, 6}, {2, 24, 4}, {2, 25, 3}, {2, 49, 3}, {2, 50, 2}, {2, 51, 2}, {2, 99, 2}, {2, 100, 1},
		{3, 0, -1}, {3, 1, 15}, {3, 2, 13}, {3, 5, 11}, {3, 88, 4}, {3, 89, 3}, {3, 99, 3}, {3, 100, 3},
		// the greatest number of tries, and none that is enough
		{4, 0, -1}, {4, 1, -1}, {4, 2, 19}, {4, 3, 18}, {4, 5, 16}, {4, 50, 8}, {4, 94, 6}, {4, 95, 5}, {4, 99, 5}, {4, 100, 5},
		// beyond the limits, each alone and both together
		{0, 5, -1}, {0, 0, -1}, {0, 100, -1}, {-1, 50, -1}, {-1, 100, -1}, {5, 50, -1}, {5, 99, -1}, {5, 100, -1}, {5, 1, -1},
		{1, -1, -1}, {2, -1, -1}, {4, -1, -1}, {1, 101, -1}, {2, 101, -1}, {4, 101, -1}, {0, -1, -1}, {0, 101, -1}, {5, -1, -1}, {5, 101, -1},
	}
	for _, c := range cases {
		if got := impl.TriesFor(c.n, c.percent); got != c.want {
			t.Errorf("TriesFor(%d, %d) is %d, not %d", c.n, c.percent, got, c.want)
		}
	}
	for _, n := range notWays {
		for _, percent := range append(countTo(101), notPercents...) {
			if got := impl.TriesFor(n, percent); got != -1 {
				t.Errorf("TriesFor(%d, %d) is %d", n, percent, got)
			}
		}
	}
	for n := 1; n <= maxBranches; n++ {
		for _, percent := range notPercents {
			if got := impl.TriesFor(n, percent); got != -1 {
				t.Errorf("TriesFor(%d, %d) is %d", n, percent, got)
			}
		}
	}
}

// keepsWithin reports whether the quotient of MissBound is at most the percent.
func keepsWithin(n, tries, percent int) bool {
	missed, all := impl.MissBound(n, tries)
	return big.NewRat(int64(missed), int64(all)).Cmp(big.NewRat(int64(percent), 100)) <= 0
}

func TestTriesForKeepsWithinThePercent(t *testing.T) {
	for n := 1; n <= maxBranches; n++ {
		for percent := range 101 {
			tries := impl.TriesFor(n, percent)
			if tries < -1 || tries > maxTries {
				t.Fatalf("TriesFor(%d, %d) is %d", n, percent, tries)
			}
			if tries >= 0 && !keepsWithin(n, tries, percent) {
				t.Errorf("TriesFor(%d, %d) is %d, which is not enough", n, percent, tries)
			}
			fewer := maxTries + 1
			if tries >= 0 {
				fewer = tries
			}
			for other := range fewer {
				if keepsWithin(n, other, percent) {
					t.Errorf("TriesFor(%d, %d) is %d, but %d are enough", n, percent, tries, other)
				}
			}
		}
	}
}

// roomyBranch returns the branch with spare room behind its Nexts, and what
// tells whether none of it has changed.
func roomyBranch(b impl.Branch) (impl.Branch, func() bool) {
	nexts, areUnchanged := roomy(b.Nexts)
	return impl.Branch{Node: b.Node, Nexts: nexts}, areUnchanged
}

// branchFunctions call each function and write to what it returns.
var branchFunctions = []struct {
	name string
	call func(b impl.Branch, flows []int)
}{
	{"IsBranch", func(b impl.Branch, flows []int) { impl.IsBranch(b) }},
	{"NextFor", func(b impl.Branch, flows []int) {
		for _, flow := range flows {
			impl.NextFor(b, flow)
		}
	}},
	{"SeenNexts", func(b impl.Branch, flows []int) { wipe(impl.SeenNexts(b, flows)) }},
}

// branchFlows are lists from which not all that was read is returned, or all.
var branchFlows = [][]int{nil, {0}, {9999, 3, 2, 1, 0}, {2, -1, 0, 10000, 2, 1}, {-1, 10000}, {3, 3, 3, 3}}

func TestBranchFunctionsLeaveTheirArguments(t *testing.T) {
	for _, given := range slices.Concat(smallBranches(), badBranches()) {
		b, isBranchUnchanged := roomyBranch(given)
		for _, choice := range branchFlows {
			flows, areFlowsUnchanged := roomy(choice)
			for _, f := range branchFunctions {
				f.call(b, flows)
				if !isBranchUnchanged() || !areFlowsUnchanged() {
					t.Fatalf("%s changes an argument: %v or %v", f.name, given, choice)
				}
			}
		}
	}
}

func TestSeenNextsShareNoMemory(t *testing.T) {
	for _, given := range smallBranches() {
		for _, choice := range branchFlows {
			b, flows := branch(given.Node, slices.Clone(given.Nexts)...), slices.Clone(choice)
			first, second := impl.SeenNexts(b, flows), impl.SeenNexts(b, flows)
			want := slices.Clone(first)
			wipe(first)
			// What was passed in does not matter when the call has returned.
			wipe(b.Nexts)
			wipe(flows)
			if !slices.Equal(second, want) || !slices.Equal(impl.SeenNexts(given, choice), want) {
				t.Fatalf("the results of SeenNexts(%v, %v) share memory", given, choice)
			}
		}
	}
}
