package tests

import (
	"math"
	"math/rand/v2"
	"slices"
	"sync"
	"testing"

	"loop.example/g00958/impl"
)

const (
	maxNodes = impl.MaxNodes
	maxLinks = impl.MaxLinks
)

// joined returns a network with a link for each two numbers.
func joined(nodes int, ends ...int) impl.Net {
	x := impl.Net{Nodes: nodes}
	for pair := range slices.Chunk(ends, 2) {
		x.Links = append(x.Links, impl.Link{A: pair[0], B: pair[1]})
	}
	return x
}

func turned(l impl.Link) impl.Link {
	return impl.Link{A: l.B, B: l.A}
}

// withLink returns a copy of the network with another link at an index.
func withLink(x impl.Net, i int, l impl.Link) impl.Net {
	y := impl.Net{Nodes: x.Nodes, Links: slices.Clone(x.Links)}
	y.Links[i] = l
	return y
}

// highest returns the greatest number that is an end of a link.
func highest(x impl.Net) int {
	n := 0
	for _, l := range x.Links {
		n = max(n, l.A, l.B)
	}
	return n
}

var nets = []impl.Net{
	joined(2, 0, 1), joined(2, 1, 0), joined(maxNodes, 0, maxNodes-1), joined(3, 2, 1),
	// lines, a star, and routers with hosts
	joined(3, 0, 1, 1, 2), joined(4, 2, 3, 1, 0, 2, 1), joined(7, 5, 6, 4, 5, 3, 4, 2, 3, 1, 2, 0, 1), joined(7, 3, 0, 3, 1, 2, 3, 3, 4, 5, 3, 3, 6),
	joined(7, 0, 4, 1, 4, 4, 5, 5, 2, 5, 3), joined(8, 0, 4, 4, 5, 5, 2, 5, 3, 1, 4, 6, 7),
	// circles
	joined(3, 0, 1, 1, 2, 2, 0), joined(3, 2, 0, 1, 0, 2, 1), joined(4, 2, 3, 0, 1, 1, 2, 0, 3), joined(5, 4, 0, 3, 4, 2, 3, 1, 2, 0, 1), joined(6, 0, 1, 1, 2, 2, 3, 3, 4, 4, 5, 5, 0),
	// circles that share a node, a link, or all nodes, and circles apart
	joined(5, 0, 1, 1, 2, 2, 0, 2, 3, 3, 4, 4, 2), joined(4, 0, 1, 1, 2, 2, 0, 2, 3, 3, 1), joined(4, 0, 1, 0, 2, 0, 3, 1, 2, 1, 3, 2, 3), joined(5, 0, 2, 0, 3, 0, 4, 1, 2, 1, 3, 1, 4), joined(8, 0, 1, 1, 2, 2, 0, 5, 6, 6, 7, 7, 5),
	// a circle with ways in and out, and nodes without links
	joined(6, 0, 1, 1, 2, 1, 3, 2, 4, 3, 4, 4, 5), joined(8, 1, 6, 6, 3), joined(maxNodes, 7, 3, 3, 5, 5, 7, 1, 3),
}

// notNets returns what is no valid network, each for one reason alone where
// that is possible.
func notNets() []impl.Net {
	l := []impl.Net{
		{}, {Nodes: 1}, {Nodes: 2}, {Nodes: maxNodes}, {Nodes: 2, Links: []impl.Link{}}, {Nodes: maxNodes + 1}, {Nodes: -1},
		// a single node can have no link
		joined(1, 0, 0), joined(1, 0, 1), joined(1, 1, 0), joined(0, 0, 0), joined(0, 0, 1), joined(-1, 0, 1), joined(0, -1, -2),
		// too many links
		joined(8, 0, 1, 1, 2, 2, 3, 3, 4, 4, 5, 5, 6, 6, 7), joined(5, 0, 1, 0, 2, 0, 3, 0, 4, 1, 2, 1, 3, 1, 4), joined(5, 0, 1, 0, 2, 0, 3, 0, 4, 1, 2, 1, 3, 1, 4, 2, 3, 2, 4, 3, 4),
		// ends that are no nodes, though they would be with more nodes
		joined(9, 0, 8), joined(9, 8, 0), joined(8, 0, 1, 8, 1), joined(5, 0, 4, 1, 4, 4, 5, 5, 2, 5, 3),
	}
	for _, x := range nets {
		for _, nodes := range []int{0, -1, -x.Nodes, highest(x), maxNodes + 1, math.MaxInt, math.MinInt} {
			l = append(l, impl.Net{Nodes: nodes, Links: x.Links})
		}
		for i, link := range x.Links {
			for _, n := range []int{-1, -x.Nodes, x.Nodes, x.Nodes + 1, maxNodes, math.MaxInt, math.MinInt} {
				if n < 0 || n >= x.Nodes {
					l = append(l, withLink(x, i, impl.Link{A: n, B: link.B}), withLink(x, i, impl.Link{A: link.A, B: n}), withLink(x, i, impl.Link{A: n, B: n}))
				}
			}
			l = append(l, withLink(x, i, impl.Link{A: link.A, B: link.A}), withLink(x, i, impl.Link{A: link.B, B: link.B}))
			for j, other := range x.Links {
				if j != i {
					l = append(l, withLink(x, i, other), withLink(x, i, turned(other)))
				}
			}
		}
	}
	return l
}

// strangeNets are no valid networks, but have ends that a path may meet.
var strangeNets = []impl.Net{
	{}, joined(3), joined(0, 0, 1, 1, 2), joined(-5, 2, 0, 1, 0),
	// several links of the same nodes, and of a node with itself
	joined(3, 0, 1, 1, 0, 0, 1, 1, 2), joined(3, 1, 1, 0, 1, 1, 1, 1, 2), joined(1, 0, 0), joined(1, 0, 0, 0, 0),
	// ends beyond the nodes, also the number that stands for no end
	joined(2, 0, -1, -1, 1, 1, 5), joined(3, -1, -2, -2, 0, 0, -1), joined(2, -1, -1), joined(2, math.MaxInt, math.MinInt, math.MinInt, 0, 0, math.MaxInt), joined(9, 0, 8, 8, 9, 9, 0),
	// too many links
	joined(9, 0, 1, 1, 2, 2, 3, 3, 4, 4, 5, 5, 6, 6, 7, 7, 8, 8, 0),
}

// placesOf returns the ends of all links, the nodes, and numbers beside them.
func placesOf(x impl.Net) []int {
	l := []int{-2, -1, math.MaxInt, math.MinInt, maxNodes}
	for _, link := range x.Links {
		l = append(l, link.A, link.B)
	}
	for n := range min(max(x.Nodes, 0), maxNodes) + 2 {
		l = append(l, n)
	}
	slices.Sort(l)
	return slices.Compact(l)
}

// isStep reports whether the index is that of a link of the two nodes.
func isStep(x impl.Net, i, a, b int) bool {
	if i < 0 || i >= len(x.Links) {
		return false
	}
	l := x.Links[i]
	return l.A == a && l.B == b || l.A == b && l.B == a
}

// leads asks, for every node, whether the first link goes there and the others
// go on from it.
func leads(x impl.Net, path []int, from, to int) bool {
	if len(path) == 0 {
		return from == to
	}
	return slices.ContainsFunc(placesOf(x), func(n int) bool { return isStep(x, path[0], from, n) && leads(x, path[1:], n, to) })
}

func isWithoutRepeats(path []int) bool {
	sorted := slices.Sorted(slices.Values(path))
	return len(slices.Compact(sorted)) == len(path)
}

// indexLists returns all lists of at most so many indices, with some that no
// link has.
func indexLists(x impl.Net, length int) [][]int {
	last := [][]int{{}}
	l := [][]int{{}}
	for range length {
		longer := [][]int{}
		for _, path := range last {
			for i := -1; i <= len(x.Links); i++ {
				longer = append(longer, append(slices.Clone(path), i))
			}
		}
		l, last = append(l, longer...), longer
	}
	return l
}

// smallNets are all networks of up to four nodes, with their links in every
// order, every other one of them with its ends turned.
var smallNets = sync.OnceValue(func() []impl.Net {
	l := []impl.Net{}
	for nodes := 2; nodes <= 4; nodes++ {
		all := []impl.Link{}
		for b := range nodes {
			for a := range b {
				all = append(all, impl.Link{A: a, B: b})
			}
		}
		last := []impl.Net{{Nodes: nodes}}
		for range all {
			longer := []impl.Net{}
			for _, x := range last {
				for k, link := range all {
					if !slices.Contains(x.Links, link) && !slices.Contains(x.Links, turned(link)) {
						if (k+len(x.Links))%2 == 1 {
							link = turned(link)
						}
						longer = append(longer, impl.Net{Nodes: nodes, Links: append(slices.Clone(x.Links), link)})
					}
				}
			}
			l, last = append(l, longer...), longer
		}
	}
	return l
})

// manyNets are networks of all sizes, most of them with as many links as a
// network may have.
var manyNets = sync.OnceValue(func() []impl.Net {
	random := rand.New(rand.NewPCG(9, 958))
	l := slices.Clone(nets)
	for n := range 1500 {
		nodes := 4 + n%(maxNodes-3)
		x := impl.Net{Nodes: nodes}
		for len(x.Links) < maxLinks-n%7/5 {
			a, b := random.IntN(nodes), random.IntN(nodes)
			link := impl.Link{A: a, B: b}
			if a != b && !slices.Contains(x.Links, link) && !slices.Contains(x.Links, turned(link)) {
				x.Links = append(x.Links, link)
			}
		}
		l = append(l, x)
	}
	return l
})

func TestNetLimits(t *testing.T) {
	if maxNodes != 8 || maxLinks != 6 {
		t.Errorf("MaxNodes is %d and MaxLinks %d", maxNodes, maxLinks)
	}
}

func TestIsNet(t *testing.T) {
	for _, x := range slices.Concat(nets, smallNets(), manyNets()) {
		if !impl.IsNet(x) {
			t.Errorf("%v is no network", x)
		}
		for nodes := highest(x); nodes <= maxNodes+1; nodes++ {
			y := impl.Net{Nodes: nodes, Links: x.Links}
			if want := nodes > highest(x) && nodes <= maxNodes; impl.IsNet(y) != want {
				t.Errorf("IsNet of %v is not %t", y, want)
			}
		}
		for n := range x.Links {
			if n > 0 && !impl.IsNet(impl.Net{Nodes: x.Nodes, Links: x.Links[:n]}) {
				t.Errorf("the first %d links of %v are no network", n, x)
			}
		}
	}
	for _, x := range slices.Concat(notNets(), strangeNets) {
		if impl.IsNet(x) {
			t.Errorf("%v is a network", x)
		}
	}
}

// TestIsNetOfAllSmallLinks has every network of up to two links, also with ends
// beyond its nodes.
func TestIsNetOfAllSmallLinks(t *testing.T) {
	all := []impl.Link{}
	for a := -1; a <= 4; a++ {
		for b := -1; b <= 4; b++ {
			all = append(all, impl.Link{A: a, B: b})
		}
	}
	for nodes := -1; nodes <= 4; nodes++ {
		good := func(l impl.Link) bool { return l.A != l.B && min(l.A, l.B) >= 0 && max(l.A, l.B) < nodes }
		for _, l := range all {
			if x := joined(nodes, l.A, l.B); impl.IsNet(x) != good(l) {
				t.Errorf("IsNet of %v is not %t", x, good(l))
			}
			for _, k := range all {
				want := good(l) && good(k) && k != l && k != turned(l)
				if x := joined(nodes, l.A, l.B, k.A, k.B); impl.IsNet(x) != want {
					t.Errorf("IsNet of %v is not %t", x, want)
				}
			}
		}
	}
}

func TestLinkOf(t *testing.T) {
	cases := []struct {
		x          impl.Net
		a, b, want int
	}{
		// either order, with the link written in either order
		{joined(7, 0, 4, 1, 4, 4, 5, 5, 2, 5, 3), 4, 5, 2},
		{joined(7, 0, 4, 1, 4, 4, 5, 5, 2, 5, 3), 5, 4, 2},
		{joined(7, 0, 4, 1, 4, 4, 5, 5, 2, 5, 3), 2, 5, 3},
		{joined(7, 0, 4, 1, 4, 4, 5, 5, 2, 5, 3), 0, 4, 0},
		{joined(7, 0, 4, 1, 4, 4, 5, 5, 2, 5, 3), 3, 5, 4},
		// no such link
		{joined(7, 0, 4, 1, 4, 4, 5, 5, 2, 5, 3), 0, 1, -1},
		{joined(7, 0, 4, 1, 4, 4, 5, 5, 2, 5, 3), 0, 5, -1},
		{joined(7, 0, 4, 1, 4, 4, 5, 5, 2, 5, 3), 6, 4, -1},
		{joined(7, 0, 4, 1, 4, 4, 5, 5, 2, 5, 3), 0, -4, -1},
		{joined(7, 0, 4, 1, 4, 4, 5, 5, 2, 5, 3), math.MinInt, math.MaxInt, -1},
		{joined(2), 0, 1, -1},
		{impl.Net{}, 0, 0, -1},
		// the same node twice
		{joined(7, 0, 4, 1, 4, 4, 5, 5, 2, 5, 3), 4, 4, -1},
		{joined(7, 0, 4, 1, 4, 4, 5, 5, 2, 5, 3), 0, 0, -1},
		{joined(3, 0, 1, 1, 1, 1, 1), 1, 1, 1},
		{joined(3, 0, 1, 1, 1, 1, 1), 0, 0, -1},
		// several links of the same nodes
		{joined(3, 1, 2, 0, 1, 1, 0, 0, 1), 0, 1, 1},
		{joined(3, 1, 2, 0, 1, 1, 0, 0, 1), 1, 0, 1},
		{joined(3, 1, 2, 1, 0, 0, 1), 0, 1, 1},
		{joined(3, 1, 2, 1, 0, 0, 1), 1, 0, 1},
		// what is no valid network for another reason
		{joined(0, 3, 9), 9, 3, 0},
		{joined(-1, -1, -2), -2, -1, 0},
		{joined(2, math.MaxInt, math.MinInt), math.MinInt, math.MaxInt, 0},
		{joined(9, 0, 1, 1, 2, 2, 3, 3, 4, 4, 5, 5, 6, 6, 7, 7, 8), 8, 7, 7},
	}
	for _, c := range cases {
		if got := impl.LinkOf(c.x, c.a, c.b); got != c.want {
			t.Errorf("LinkOf(%v, %d, %d) is %d, not %d", c.x, c.a, c.b, got, c.want)
		}
	}
}

func TestLinkOfAllNodes(t *testing.T) {
	for _, x := range slices.Concat(nets, strangeNets, manyNets()) {
		for _, a := range placesOf(x) {
			for _, b := range placesOf(x) {
				want := 0
				for want < len(x.Links) && !isStep(x, want, a, b) {
					want++
				}
				if want == len(x.Links) {
					want = -1
				}
				if got := impl.LinkOf(x, a, b); got != want {
					t.Errorf("LinkOf(%v, %d, %d) is %d, not %d", x, a, b, got, want)
				}
			}
		}
	}
}

func TestIsPath(t *testing.T) {
	tree := joined(7, 0, 4, 1, 4, 4, 5, 5, 2, 5, 3)
	circle := joined(4, 2, 3, 0, 1, 1, 2, 0, 3)
	cases := []struct {
		x        impl.Net
		path     []int
		from, to int
		want     bool
	}{
		{tree, []int{0, 2, 4}, 0, 3, true},
		{tree, []int{4, 2, 0}, 3, 0, true},
		{tree, []int{2}, 5, 4, true},
		// the empty path, also of numbers that are no nodes
		{tree, nil, 3, 3, true},
		{tree, []int{}, 6, 6, true},
		{tree, nil, 3, 5, false},
		{tree, nil, -1, -1, true},
		{tree, nil, math.MinInt, math.MinInt, true},
		{tree, nil, 99, 99, true},
		{tree, nil, -1, 0, false},
		{tree, nil, 0, -1, false},
		{tree, nil, 99, 98, false},
		{impl.Net{}, nil, 0, 0, true},
		{impl.Net{}, nil, 0, 1, false},
		// a link twice
		{tree, []int{0, 0}, 0, 0, false},
		{tree, []int{2, 2}, 4, 4, false},
		{tree, []int{0, 2, 2}, 0, 4, false},
		{tree, []int{0, 2, 2, 1}, 0, 1, false},
		{tree, []int{0, 0, 0}, 0, 4, false},
		{circle, []int{1, 2, 0, 3, 1}, 0, 1, false},
		{circle, []int{3, 3, 1}, 0, 1, false},
		// indices that no link has, also where nothing is sought
		{tree, []int{-1}, 0, 4, false},
		{tree, []int{5}, 5, 3, false},
		{tree, []int{0, -1}, 0, 4, false},
		{tree, []int{0, 5}, 0, 4, false},
		{tree, []int{-1, 0}, 0, 4, false},
		{tree, []int{0, 2, math.MaxInt, 4}, 0, 3, false},
		{tree, []int{math.MinInt}, 0, 0, false},
		{tree, []int{-1}, 0, -1, false},
		{tree, []int{5}, 0, -1, false},
		{impl.Net{}, []int{0}, 0, 0, false},
		{impl.Net{}, []int{0}, 0, -1, false},
		// links that do not go on where the one before ended
		{tree, []int{0, 4}, 0, 3, false},
		{tree, []int{0, 3}, 0, 2, false},
		{tree, []int{2, 0, 4}, 0, 3, false},
		{tree, []int{3}, 0, -1, false},
		{tree, []int{3}, 0, 2, false},
		{tree, []int{4, 2, 0}, 0, 3, false},
		{tree, []int{0, 2, 4}, 3, 0, false},
		// a path that ends elsewhere
		{tree, []int{0, 2}, 0, 3, false},
		{tree, []int{0, 2}, 0, 4, false},
		{tree, []int{0, 2, 4}, 0, 5, false},
		{tree, []int{0, 2, 4}, 0, 0, false},
		{tree, []int{0}, 0, 99, false},
		// from what is no node
		{tree, []int{0}, -1, 4, false},
		{tree, []int{0}, 7, 4, false},
		// around a circle
		{circle, []int{1, 2, 0, 3}, 0, 0, true},
		{circle, []int{3, 0, 2, 1}, 0, 0, true},
		{circle, []int{0, 3, 1, 2}, 2, 2, true},
		{circle, []int{1, 2, 0}, 0, 3, true},
		{circle, []int{1, 2, 0, 3}, 0, 1, false},
		{circle, []int{1, 2, 0, 3}, 1, 1, false},
		// a path that comes by a node twice
		{joined(5, 0, 1, 1, 2, 2, 3, 3, 1, 1, 4), []int{0, 1, 2, 3, 4}, 0, 4, true},
		{joined(5, 0, 1, 1, 2, 2, 3, 3, 1, 1, 4), []int{0, 3, 2, 1, 4}, 0, 4, true},
		// what is no valid network
		{joined(0, 0, 1, 1, 0), []int{0, 1}, 0, 0, true},
		{joined(0, 0, 1, 1, 0), []int{0, 0}, 0, 0, false},
		{joined(1, 3, 3), []int{0}, 3, 3, true},
		{joined(2, 0, -1, -1, 1), []int{0, 1}, 0, 1, true},
		{joined(2, 0, -1, -1, 1), []int{1}, -1, 1, true},
		{joined(2, 0, -1, -1, 1), []int{0}, 0, -1, false},
		{joined(2, 0, -7), []int{0}, 0, -7, false},
		{joined(2, 0, -7), []int{0}, -7, 0, true},
	}
	for _, c := range cases {
		if impl.IsPath(c.x, c.path, c.from, c.to) != c.want {
			t.Errorf("IsPath(%v, %v, %d, %d) is not %t", c.x, c.path, c.from, c.to, c.want)
		}
	}
}

func TestEndOf(t *testing.T) {
	tree := joined(7, 0, 4, 1, 4, 4, 5, 5, 2, 5, 3)
	circle := joined(4, 2, 3, 0, 1, 1, 2, 0, 3)
	cases := []struct {
		x          impl.Net
		path       []int
		from, want int
	}{
		{tree, []int{0, 2}, 0, 5},
		{tree, []int{0, 2, 4}, 0, 3},
		{tree, []int{4, 2, 0}, 3, 0},
		{tree, []int{2}, 5, 4},
		// the empty path
		{tree, nil, 3, 3},
		{tree, []int{}, 6, 6},
		{tree, nil, 7, 7},
		{tree, nil, -5, -5},
		{tree, nil, math.MaxInt, math.MaxInt},
		{impl.Net{}, nil, 0, 0},
		// indices that no link has
		{tree, []int{-1}, 0, -1},
		{tree, []int{5}, 5, -1},
		{tree, []int{9}, 0, -1},
		{tree, []int{0, -1}, 0, -1},
		{tree, []int{0, 5}, 0, -1},
		{tree, []int{0, 5, 2}, 0, -1},
		{tree, []int{math.MinInt}, 0, -1},
		{tree, []int{math.MaxInt}, 0, -1},
		{impl.Net{}, []int{0}, 0, -1},
		// links that do not begin where the one before ends
		{tree, []int{2}, 0, -1},
		{tree, []int{0, 4}, 0, -1},
		{tree, []int{0, 4, 2}, 0, -1},
		{tree, []int{4, 0}, 3, -1},
		{tree, []int{2, 0}, 4, -1},
		// from what is no node
		{tree, []int{0}, -1, -1},
		{tree, []int{0}, 7, -1},
		{tree, []int{2}, math.MaxInt, -1},
		{tree, []int{0}, 6, -1},
		// a link twice, and around a circle
		{tree, []int{0, 0}, 0, 0},
		{tree, []int{0, 2, 2, 1}, 0, 1},
		{circle, []int{1, 2, 0, 3}, 0, 0},
		{circle, []int{3, 0, 2, 1}, 0, 0},
		{circle, []int{1, 2, 0, 3, 1}, 0, 1},
		// what is no valid network
		{joined(1, 3, 3), []int{0, 0}, 3, 3},
		{joined(2, 0, -1, -1, 1), []int{0, 1}, 0, 1},
		{joined(2, 0, -1, -1, 1), []int{0}, 0, -1},
		{joined(2, 0, -1, -1, 1), []int{1, 0}, 1, 0},
		{joined(2, 0, -7), []int{0}, 0, -7},
		{joined(9, 0, 8, 8, 9), []int{0, 1}, 0, 9},
	}
	for _, c := range cases {
		if got := impl.EndOf(c.x, c.path, c.from); got != c.want {
			t.Errorf("EndOf(%v, %v, %d) is %d, not %d", c.x, c.path, c.from, got, c.want)
		}
	}
}

func TestPathsLeadFromNodeToNode(t *testing.T) {
	for _, x := range slices.Concat(nets, strangeNets) {
		places := placesOf(x)
		for _, path := range indexLists(x, 3) {
			for _, from := range places {
				checkEnds(t, x, path, from, places)
			}
		}
	}
}

func checkEnds(t *testing.T, x impl.Net, path []int, from int, places []int) {
	end, clean := -1, isWithoutRepeats(path)
	for _, to := range places {
		there := leads(x, path, from, to)
		if there {
			end = to
		}
		want := there && clean && (len(path) == 0 || to >= 0)
		if impl.IsPath(x, path, from, to) != want {
			t.Errorf("IsPath(%v, %v, %d, %d) is not %t", x, path, from, to, want)
		}
	}
	if got := impl.EndOf(x, path, from); got != end {
		t.Errorf("EndOf(%v, %v, %d) is %d, not %d", x, path, from, got, end)
	}
}

func TestLongPathsEnd(t *testing.T) {
	circle := joined(3, 0, 1, 1, 2, 2, 0)
	path := slices.Repeat([]int{0, 1, 2}, 100000)
	if got := impl.EndOf(circle, path, 0); got != 0 {
		t.Errorf("EndOf many circles is %d", got)
	}
	if got := impl.EndOf(circle, append(path, 0, 3), 0); got != -1 {
		t.Errorf("EndOf many circles and no link is %d", got)
	}
	if impl.IsPath(circle, path, 0, 0) || impl.IsPath(circle, path[:len(path)-2], 0, 1) {
		t.Error("many circles are a path")
	}
	if got := impl.RowOf(path, 4); !slices.Equal(got, []int{1, 1, 1, 0}) {
		t.Errorf("RowOf many circles is %v", got)
	}
}

func TestRouteTo(t *testing.T) {
	tree := joined(7, 0, 4, 1, 4, 4, 5, 5, 2, 5, 3)
	square := joined(4, 2, 3, 0, 1, 1, 2, 0, 3)
	// three ways of two links from 0 to 1
	ways := joined(5, 1, 2, 1, 3, 1, 4, 0, 4, 0, 3, 0, 2)
	cases := []struct {
		x        impl.Net
		from, to int
		want     []int
	}{
		{tree, 0, 3, []int{0, 2, 4}},
		{tree, 3, 0, []int{4, 2, 0}},
		{tree, 1, 0, []int{1, 0}},
		{tree, 2, 1, []int{3, 2, 1}},
		// neighbours
		{tree, 0, 4, []int{0}},
		{tree, 4, 0, []int{0}},
		{tree, 5, 4, []int{2}},
		{joined(2, 0, 1), 0, 1, []int{0}},
		{joined(2, 0, 1), 1, 0, []int{0}},
		// a node to itself, also in a circle
		{tree, 0, 0, nil},
		{tree, 4, 4, nil},
		{tree, 6, 6, nil},
		{square, 2, 2, nil},
		// several routes
		{square, 0, 2, []int{1, 2}},
		{square, 2, 0, []int{0, 3}},
		{square, 1, 3, []int{1, 3}},
		{square, 3, 1, []int{0, 2}},
		{ways, 0, 1, []int{3, 2}},
		{ways, 1, 0, []int{0, 5}},
		{ways, 2, 3, []int{0, 1}},
		{ways, 3, 4, []int{1, 2}},
		{ways, 4, 2, []int{2, 0}},
		// two routes that first differ in the second link
		{joined(5, 3, 4, 0, 1, 1, 3, 1, 2, 2, 4), 0, 4, []int{1, 2, 0}},
		{joined(5, 3, 4, 0, 1, 1, 2, 1, 3, 2, 4), 0, 4, []int{1, 2, 4}},
		{joined(5, 3, 4, 0, 1, 1, 2, 1, 3, 2, 4), 4, 0, []int{0, 3, 1}},
		// circles that have a shorter side, also where its links have greater indices
		{joined(5, 0, 1, 1, 2, 2, 3, 3, 4, 4, 0), 0, 3, []int{4, 3}},
		{joined(5, 0, 1, 1, 2, 2, 3, 3, 4, 4, 0), 0, 2, []int{0, 1}},
		{joined(4, 0, 1, 1, 2, 2, 3, 3, 0), 0, 3, []int{3}},
		{joined(6, 0, 1, 1, 2, 2, 3, 3, 4, 4, 5, 5, 0), 0, 3, []int{0, 1, 2}},
		{joined(6, 0, 1, 1, 2, 2, 3, 3, 4, 4, 5, 5, 0), 3, 0, []int{2, 1, 0}},
		{joined(6, 0, 1, 1, 2, 2, 3, 3, 4, 4, 5, 5, 0), 1, 5, []int{0, 5}},
		// as many links as there may be
		{joined(7, 5, 6, 4, 5, 3, 4, 2, 3, 1, 2, 0, 1), 0, 6, []int{5, 4, 3, 2, 1, 0}},
		{joined(7, 5, 6, 4, 5, 3, 4, 2, 3, 1, 2, 0, 1), 6, 0, []int{0, 1, 2, 3, 4, 5}},
		{joined(maxNodes, 0, maxNodes-1), maxNodes - 1, 0, []int{0}},
		// nodes that no path connects
		{tree, 0, 6, nil},
		{tree, 6, 0, nil},
		{joined(8, 0, 1, 1, 2, 2, 0, 5, 6, 6, 7, 7, 5), 0, 5, nil},
		{joined(8, 0, 1, 1, 2, 2, 0, 5, 6, 6, 7, 7, 5), 3, 4, nil},
		{joined(8, 0, 1, 1, 2, 2, 0, 5, 6, 6, 7, 7, 5), 5, 7, []int{5}},
		// nodes that do not exist
		{tree, 0, 7, nil},
		{tree, 7, 0, nil},
		{tree, 7, 7, nil},
		{tree, -1, 0, nil},
		{tree, 0, -1, nil},
		{tree, -1, -1, nil},
		{tree, 0, math.MaxInt, nil},
		{tree, math.MinInt, 0, nil},
		{tree, math.MinInt, math.MaxInt, nil},
	}
	for _, c := range cases {
		if got := impl.RouteTo(c.x, c.from, c.to); !slices.Equal(got, c.want) {
			t.Errorf("RouteTo(%v, %d, %d) is %v, not %v", c.x, c.from, c.to, got, c.want)
		}
	}
}

func TestRouteToRejects(t *testing.T) {
	for _, x := range slices.Concat(notNets(), strangeNets) {
		for _, from := range placesOf(x) {
			for _, to := range placesOf(x) {
				if got := impl.RouteTo(x, from, to); len(got) != 0 {
					t.Errorf("RouteTo(%v, %d, %d) is %v", x, from, to, got)
				}
			}
		}
	}
	for _, x := range manyNets() {
		for _, n := range placesOf(x) {
			if n >= 0 && n < x.Nodes {
				continue
			}
			for m := range x.Nodes {
				if a, b := impl.RouteTo(x, n, m), impl.RouteTo(x, m, n); len(a)+len(b) != 0 {
					t.Errorf("%d, which is no node of %v, has the routes %v and %v", n, x, a, b)
				}
			}
		}
	}
}

// bestOf tries every way on from a node, and returns the best list of links to
// another, with those that are used at its beginning, or nil.
func bestOf(x impl.Net, used []int, node, to int) []int {
	if node == to {
		return append([]int{}, used...)
	}
	var best []int
	for i := range x.Links {
		for n := range x.Nodes {
			if slices.Contains(used, i) || !isStep(x, i, node, n) {
				continue
			}
			found := bestOf(x, append(slices.Clone(used), i), n, to)
			if found != nil && (best == nil || len(found) < len(best) || len(found) == len(best) && slices.Compare(found, best) < 0) {
				best = found
			}
		}
	}
	return best
}

func TestRoutesAreTheBestPaths(t *testing.T) {
	lengths, several := map[int]int{}, 0
	for _, x := range slices.Concat(smallNets(), manyNets()) {
		for from := range x.Nodes {
			for to := range x.Nodes {
				want, got := bestOf(x, nil, from, to), impl.RouteTo(x, from, to)
				if !slices.Equal(got, want) {
					t.Errorf("RouteTo(%v, %d, %d) is %v, not %v", x, from, to, got, want)
				}
				if want != nil && !impl.IsPath(x, got, from, to) {
					t.Errorf("RouteTo(%v, %d, %d) is %v, which is no path", x, from, to, got)
				}
				lengths[len(want)]++
				if len(impl.RouteTo(x, to, from)) != len(got) {
					t.Errorf("the route from %d to %d in %v is %v, but that back has not as many links", from, to, x, got)
				}
				back := slices.Clone(impl.RouteTo(x, to, from))
				if slices.Reverse(back); !slices.Equal(back, got) {
					several++
				}
			}
		}
	}
	for length := range maxLinks + 1 {
		if lengths[length] < 2 {
			t.Errorf("only %d routes have %d links", lengths[length], length)
		}
	}
	if several < 500 {
		t.Errorf("only %d routes have another one beside them", several)
	}
}

// TestRoutesAreShortestPaths asks IsPath about every shorter list of links, and
// about every list of as many that comes before the route.
func TestRoutesAreShortestPaths(t *testing.T) {
	for _, x := range nets {
		lists := indexLists(x, min(len(x.Links), 4))
		for from := range x.Nodes {
			for to := range x.Nodes {
				if from == to {
					continue
				}
				route := impl.RouteTo(x, from, to)
				for _, path := range lists {
					better := len(route) == 0 || len(path) < len(route) || len(path) == len(route) && slices.Compare(path, route) < 0
					if better && impl.IsPath(x, path, from, to) {
						t.Errorf("RouteTo(%v, %d, %d) is %v, not %v", x, from, to, route, path)
					}
				}
			}
		}
	}
}

// TestRoutesDoNotDependOnTheEnds turns links around, which changes neither
// their indices nor what they connect.
func TestRoutesDoNotDependOnTheEnds(t *testing.T) {
	for _, x := range manyNets() {
		for i, l := range x.Links {
			y := withLink(x, i, turned(l))
			for from := range x.Nodes {
				for to := range x.Nodes {
					if a, b := impl.RouteTo(x, from, to), impl.RouteTo(y, from, to); !slices.Equal(a, b) {
						t.Errorf("RouteTo(%v, %d, %d) is %v, but %v with link %d turned", x, from, to, a, b, i)
					}
				}
			}
		}
	}
}

func TestRowOf(t *testing.T) {
	cases := []struct {
		path  []int
		links int
		want  []int
	}{
		{[]int{4, 0, 9}, 5, []int{1, 0, 0, 0, 1}},
		{[]int{0, 2, 4}, 5, []int{1, 0, 1, 0, 1}},
		{[]int{4, 2, 0}, 5, []int{1, 0, 1, 0, 1}},
		{[]int{1}, 3, []int{0, 1, 0}},
		// numbers of links
		{[]int{0}, 1, []int{1}},
		{[]int{1}, 1, []int{0}},
		{[]int{5, 0}, maxLinks, []int{1, 0, 0, 0, 0, 1}},
		{[]int{0, 1, 2, 3, 4, 5}, maxLinks, []int{1, 1, 1, 1, 1, 1}},
		{[]int{0}, 0, nil},
		{[]int{0, 5}, maxLinks + 1, nil},
		{[]int{0}, -1, nil},
		{[]int{0}, math.MaxInt, nil},
		{[]int{0}, math.MinInt, nil},
		// the empty path
		{nil, 1, []int{0}},
		{[]int{}, 3, []int{0, 0, 0}},
		{nil, maxLinks, []int{0, 0, 0, 0, 0, 0}},
		{nil, 0, nil},
		{nil, maxLinks + 1, nil},
		// indices beyond the links
		{[]int{-1}, 3, []int{0, 0, 0}},
		{[]int{3}, 3, []int{0, 0, 0}},
		{[]int{-1, 2}, 3, []int{0, 0, 1}},
		{[]int{2, 3}, 3, []int{0, 0, 1}},
		{[]int{3, 0}, 3, []int{1, 0, 0}},
		{[]int{-3, -2, -1}, 3, []int{0, 0, 0}},
		{[]int{math.MinInt, 1, math.MaxInt}, 2, []int{0, 1}},
		// indices that are there twice
		{[]int{1, 1}, 3, []int{0, 1, 0}},
		{[]int{2, 0, 2, 2}, 3, []int{1, 0, 1}},
		{[]int{1, 1, 1, 1}, 2, []int{0, 1}},
	}
	for _, c := range cases {
		if got := impl.RowOf(c.path, c.links); !slices.Equal(got, c.want) {
			t.Errorf("RowOf(%v, %d) is %v, not %v", c.path, c.links, got, c.want)
		}
	}
}

func TestRowsHaveExactlyTheLinksOfTheirPaths(t *testing.T) {
	for links := -2; links <= maxLinks+2; links++ {
		for _, path := range indexLists(nets[6], 4) {
			row := impl.RowOf(path, links)
			if want := links >= 1 && links <= maxLinks; want && len(row) != links || !want && len(row) != 0 {
				t.Fatalf("RowOf(%v, %d) is %v", path, links, row)
			}
			for i, n := range row {
				if n != 0 && n != 1 || n == 1 != slices.Contains(path, i) {
					t.Errorf("RowOf(%v, %d) is %v", path, links, row)
				}
			}
		}
	}
}

// netFunctions are called with a network, a path and two nodes; what they
// return is wiped out, spare room included.
var netFunctions = []struct {
	name string
	call func(x impl.Net, path []int, from, to int)
}{
	{"IsNet", func(x impl.Net, path []int, from, to int) { impl.IsNet(x) }},
	{"LinkOf", func(x impl.Net, path []int, from, to int) { impl.LinkOf(x, from, to) }},
	{"IsPath", func(x impl.Net, path []int, from, to int) { impl.IsPath(x, path, from, to) }},
	{"RouteTo", func(x impl.Net, path []int, from, to int) {
		wipe(impl.RouteTo(x, from, to))
	}},
	{"RowOf", func(x impl.Net, path []int, from, to int) {
		wipe(impl.RowOf(path, len(x.Links)))
	}},
	{"EndOf", func(x impl.Net, path []int, from, to int) { impl.EndOf(x, path, from) }},
}

func roomyLinks(x impl.Net) (impl.Net, func() bool) {
	whole := append(slices.Clone(x.Links), slices.Repeat([]impl.Link{{A: 77, B: 88}}, 8)...)
	before := slices.Clone(whole)
	return impl.Net{Nodes: x.Nodes, Links: whole[:len(x.Links)]}, func() bool { return slices.Equal(whole, before) }
}

func TestNetFunctionsLeaveTheirArguments(t *testing.T) {
	for n, given := range slices.Concat(nets, strangeNets, manyNets()[:100]) {
		// Links that were put in order by an earlier call would not show it
		// again, so every other one is turned.
		for i := n % 2; i < len(given.Links); i += 2 {
			given = withLink(given, i, turned(given.Links[i]))
		}
		x, linksUnchanged := roomyLinks(given)
		for _, from := range placesOf(x) {
			for _, to := range placesOf(x) {
				// Ones after the path make it differ from its row.
				path, pathUnchanged := roomy(append(slices.Clone(impl.RouteTo(x, from, to)), 1, 1, -1))
				for _, f := range netFunctions {
					f.call(x, path, from, to)
					f.call(x, path[:len(path)-3], from, to)
					if !linksUnchanged() || !pathUnchanged() {
						t.Fatalf("%s changes an argument: %v or %v", f.name, given, path)
					}
				}
			}
		}
	}
}

func TestRoutesAndRowsShareNoMemory(t *testing.T) {
	for _, x := range manyNets() {
		for from := range x.Nodes {
			for to := range x.Nodes {
				first, second := impl.RouteTo(x, from, to), impl.RouteTo(x, from, to)
				route := slices.Clone(second)
				wipe(first)
				if !slices.Equal(second, route) {
					t.Fatalf("two routes from %d to %d in %v share memory", from, to, x)
				}
				wipe(second)
				if got := impl.RouteTo(x, from, to); !slices.Equal(got, route) {
					t.Fatalf("RouteTo(%v, %d, %d) keeps its results", x, from, to)
				}
				a, b := impl.RowOf(route, len(x.Links)), impl.RowOf(route, len(x.Links))
				row := slices.Clone(b)
				wipe(a)
				if !slices.Equal(b, row) || !slices.Equal(impl.RowOf(route, len(x.Links)), row) {
					t.Fatalf("two rows of %v share memory", route)
				}
			}
		}
	}
}

// wipe writes what no route and no row holds, also to the spare room.
func wipe(l []int) {
	l = l[:cap(l)]
	for i := range l {
		l[i] = -99
	}
}
