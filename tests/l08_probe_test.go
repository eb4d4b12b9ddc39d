package tests

import (
	"math"
	"math/rand/v2"
	"slices"
	"testing"

	"loop.example/g00958/impl"
)

const maxProbes = impl.MaxProbes

func probe(from, to int, path ...int) impl.Probe {
	return impl.Probe{From: from, To: to, Path: path}
}

// along returns a probe for each path, as far as it has nothing to do with
// nodes.
func along(paths ...[]int) []impl.Probe {
	l := []impl.Probe{}
	for _, path := range paths {
		l = append(l, impl.Probe{Path: path})
	}
	return l
}

func isSameProbe(p, q impl.Probe) bool {
	return p.From == q.From && p.To == q.To && slices.Equal(p.Path, q.Path)
}

func cloneProbes(l []impl.Probe) []impl.Probe {
	m := slices.Clone(l)
	for i := range m {
		m[i].Path = slices.Clone(m[i].Path)
	}
	return m
}

func equalProbes(l, m []impl.Probe) bool {
	return slices.EqualFunc(l, m, isSameProbe)
}

// strangePaths have indices that no link has, links that are there twice, and
// orders in which no links lead anywhere.
var strangePaths = [][]int{
	nil, {}, {0}, {5}, {6}, {-1}, {2, 2}, {0, 0, 0}, {5, 3, 0}, {3, 5, 1, 3}, {4, -1, 4, 6}, {-6, -5, 7, 99}, {63, 64, 65, 1}, {31, 32, 2}, {-64, -63, -62, 3},
	{math.MaxInt, math.MinInt, 1}, {math.MinInt}, {math.MaxInt}, {1 << 32, 1<<32 + 4, 4}, {0, 1, 2, 3, 4, 5}, {5, 4, 3, 2, 1, 0, -1, 6},
}

// manyProbes are lists of probes of routes, and lists of strange paths.
func manyProbes() [][]impl.Probe {
	random := rand.New(rand.NewPCG(10, 958))
	l := [][]impl.Probe{nil, {}, along(strangePaths...)}
	for n, x := range manyNets() {
		l = append(l, impl.ProbesOf(x, random.Perm(x.Nodes)))
		mixed := []impl.Probe{}
		for range n % 5 {
			mixed = append(mixed, probe(random.IntN(9)-1, random.IntN(9)-1, strangePaths[random.IntN(len(strangePaths))]...))
		}
		l = append(l, mixed)
	}
	return l
}

func TestProbeLimit(t *testing.T) {
	if maxProbes != 12 {
		t.Errorf("MaxProbes is %d", maxProbes)
	}
}

func TestProbeFor(t *testing.T) {
	tree := joined(7, 0, 4, 1, 4, 4, 5, 5, 2, 5, 3)
	square := joined(4, 2, 3, 0, 1, 1, 2, 0, 3)
	line := joined(7, 5, 6, 4, 5, 3, 4, 2, 3, 1, 2, 0, 1)
	cases := []struct {
		x        impl.Net
		from, to int
		path     []int
	}{
		// neighbours
		{tree, 0, 4, []int{0}},
		{tree, 4, 0, []int{0}},
		{tree, 4, 5, []int{2}},
		{joined(2, 0, 1), 1, 0, []int{0}},
		// nodes far apart
		{tree, 0, 3, []int{0, 2, 4}},
		{tree, 3, 0, []int{4, 2, 0}},
		{tree, 1, 0, []int{1, 0}},
		{line, 0, 6, []int{5, 4, 3, 2, 1, 0}},
		{line, 6, 0, []int{0, 1, 2, 3, 4, 5}},
		// several routes
		{square, 0, 2, []int{1, 2}},
		{square, 2, 0, []int{0, 3}},
		// a node to itself
		{tree, 0, 0, nil},
		{tree, 4, 4, nil},
		{tree, 6, 6, nil},
		{square, 2, 2, nil},
		// nodes that no path connects
		{tree, 0, 6, nil},
		{tree, 6, 0, nil},
		{joined(4, 0, 1, 2, 3), 1, 2, nil},
		// nodes that do not exist
		{tree, 0, 7, nil},
		{tree, 7, 0, nil},
		{tree, 7, 7, nil},
		{tree, -1, 0, nil},
		{tree, 0, -1, nil},
		{tree, -1, -1, nil},
		{tree, math.MinInt, 0, nil},
		{tree, 0, math.MaxInt, nil},
		// what is no valid network
		{impl.Net{}, 0, 0, nil},
		{joined(2), 0, 1, nil},
		{joined(1, 0, 1), 0, 1, nil},
		{joined(3, 0, 1, 1, 0), 0, 1, nil},
		{joined(9, 0, 1), 0, 1, nil},
	}
	for _, c := range cases {
		want := impl.Probe{}
		if len(c.path) > 0 {
			want = probe(c.from, c.to, c.path...)
		}
		if got, ok := impl.ProbeFor(c.x, c.from, c.to); ok != (len(c.path) > 0) || !isSameProbe(got, want) {
			t.Errorf("ProbeFor(%v, %d, %d) is %v, %t", c.x, c.from, c.to, got, ok)
		}
	}
}

func TestProbeForFollowsTheBestPath(t *testing.T) {
	for _, x := range slices.Concat(smallNets(), manyNets()) {
		for from := range x.Nodes {
			for to := range x.Nodes {
				path := bestOf(x, nil, from, to)
				want := impl.Probe{}
				if len(path) > 0 {
					want = probe(from, to, path...)
				}
				got, ok := impl.ProbeFor(x, from, to)
				if ok != (len(path) > 0) || !isSameProbe(got, want) {
					t.Errorf("ProbeFor(%v, %d, %d) is %v, %t", x, from, to, got, ok)
				}
				if ok && !impl.AreProbes(x, []impl.Probe{got}) {
					t.Errorf("ProbeFor(%v, %d, %d) is %v, which is no probe", x, from, to, got)
				}
			}
		}
	}
}

func TestProbesRejectWhatIsNoNet(t *testing.T) {
	for _, x := range slices.Concat(notNets(), strangeNets) {
		places := placesOf(x)
		for _, from := range places {
			for _, to := range places {
				if got, ok := impl.ProbeFor(x, from, to); ok || !isSameProbe(got, impl.Probe{}) {
					t.Errorf("ProbeFor(%v, %d, %d) is %v, %t", x, from, to, got, ok)
				}
			}
		}
		if got := impl.ProbesOf(x, places); len(got) != 0 {
			t.Errorf("ProbesOf(%v, %v) is %v", x, places, got)
		}
		for i, l := range x.Links {
			if impl.AreProbes(x, []impl.Probe{probe(l.A, l.B, i)}) {
				t.Errorf("link %d of %v is a probe", i, x)
			}
		}
		if impl.AreProbes(x, nil) || impl.AreProbes(x, []impl.Probe{}) {
			t.Errorf("no probe is one of %v", x)
		}
	}
}

func TestProbesOf(t *testing.T) {
	star := joined(5, 0, 4, 1, 4, 2, 4, 3, 4)
	tree := joined(7, 0, 4, 1, 4, 4, 5, 5, 2, 5, 3)
	cases := []struct {
		x     impl.Net
		hosts []int
		want  []impl.Probe
	}{
		// no host, and one host
		{star, nil, nil},
		{star, []int{}, nil},
		{star, []int{0}, nil},
		{star, []int{9}, nil},
		// two hosts, in either order
		{star, []int{0, 1}, []impl.Probe{probe(0, 1, 0, 1)}},
		{star, []int{1, 0}, []impl.Probe{probe(1, 0, 1, 0)}},
		{star, []int{3, 4}, []impl.Probe{probe(3, 4, 3)}},
		// the order is that of the list, not that of the nodes
		{star, []int{0, 1, 2}, []impl.Probe{probe(0, 1, 0, 1), probe(0, 2, 0, 2), probe(1, 2, 1, 2)}},
		{star, []int{2, 0, 1}, []impl.Probe{probe(2, 0, 2, 0), probe(2, 1, 2, 1), probe(0, 1, 0, 1)}},
		{star, []int{3, 1, 0}, []impl.Probe{probe(3, 1, 3, 1), probe(3, 0, 3, 0), probe(1, 0, 1, 0)}},
		{tree, []int{3, 0, 5}, []impl.Probe{probe(3, 0, 4, 2, 0), probe(3, 5, 4), probe(0, 5, 0, 2)}},
		// the same host twice
		{star, []int{0, 0}, nil},
		{star, []int{2, 2, 2}, nil},
		{star, []int{0, 0, 1}, []impl.Probe{probe(0, 1, 0, 1), probe(0, 1, 0, 1)}},
		{star, []int{0, 1, 1}, []impl.Probe{probe(0, 1, 0, 1), probe(0, 1, 0, 1)}},
		{star, []int{0, 1, 0}, []impl.Probe{probe(0, 1, 0, 1), probe(1, 0, 1, 0)}},
		// hosts that are no nodes
		{star, []int{5, -1}, nil},
		{star, []int{-1, -1, 99, math.MaxInt, math.MinInt}, nil},
		{star, []int{0, 5}, nil},
		{star, []int{-1, 0}, nil},
		{star, []int{-1, 0, 5, 1, math.MaxInt}, []impl.Probe{probe(0, 1, 0, 1)}},
		{star, []int{0, math.MinInt, 4, 5, 0}, []impl.Probe{probe(0, 4, 0), probe(4, 0, 0)}},
		// hosts that no path connects
		{tree, []int{6, 0}, nil},
		{tree, []int{0, 6, 4}, []impl.Probe{probe(0, 4, 0)}},
		{joined(4, 0, 1, 2, 3), []int{0, 2, 1, 3}, []impl.Probe{probe(0, 1, 0), probe(2, 3, 1)}},
		// what is no valid network
		{impl.Net{}, []int{0, 1, 2}, nil},
		{joined(2, 0, 1, 0, 1), []int{0, 1}, nil},
	}
	for _, c := range cases {
		if got := impl.ProbesOf(c.x, c.hosts); !equalProbes(got, c.want) {
			t.Errorf("ProbesOf(%v, %v) is %v, not %v", c.x, c.hosts, got, c.want)
		}
	}
}

func TestProbesOfManyPairs(t *testing.T) {
	line := joined(7, 0, 1, 1, 2, 2, 3, 3, 4, 4, 5, 5, 6)
	cases := []struct {
		hosts       []int
		count       int
		first, last impl.Probe
	}{
		{[]int{0, 1, 2, 3, 4}, 10, probe(0, 1, 0), probe(3, 4, 3)},
		// twelve pairs are all there, also with others that fail beside them
		{[]int{0, 0, 0, 1, 1, 1, 1}, 12, probe(0, 1, 0), probe(0, 1, 0)},
		{[]int{2, 2, 3, 3, 3, 4}, 11, probe(2, 3, 2), probe(3, 4, 3)},
		{[]int{9, 2, 2, 3, 3, 3, 3, 4}, 12, probe(2, 3, 2), probe(3, 4, 3)},
		// of more the first ones are there
		{[]int{2, 2, 3, 3, 3, 3, 4, 5}, 12, probe(2, 3, 2), probe(2, 5, 2, 3, 4)},
		{[]int{0, 1, 2, 3, 4, 5}, 12, probe(0, 1, 0), probe(2, 5, 2, 3, 4)},
		{[]int{0, 1, 2, 3, 4, 5, 6}, 12, probe(0, 1, 0), probe(2, 3, 2)},
		{[]int{6, 5, 4, 3, 2, 1, 0}, 12, probe(6, 5, 5), probe(4, 3, 3)},
		{slices.Repeat([]int{3, 2}, 20), 12, probe(3, 2, 2), probe(3, 2, 2)},
		{append(slices.Repeat([]int{0}, 300), 1), 12, probe(0, 1, 0), probe(0, 1, 0)},
		{append([]int{0}, slices.Repeat([]int{6, 8}, 300)...), 12, probe(0, 6, 0, 1, 2, 3, 4, 5), probe(0, 6, 0, 1, 2, 3, 4, 5)},
	}
	for _, c := range cases {
		got := impl.ProbesOf(line, c.hosts)
		if len(got) != c.count || !isSameProbe(got[0], c.first) || !isSameProbe(got[len(got)-1], c.last) {
			t.Errorf("ProbesOf(%v, %v) is %v", line, c.hosts, got)
		}
	}
}

// pairsOf puts all pairs in order after it has found them, beginning with the
// second one of each.
func pairsOf(x impl.Net, hosts []int) []impl.Probe {
	type pair struct {
		i, j int
		p    impl.Probe
	}
	pairs := []pair{}
	for j := range hosts {
		for i := range j {
			a, b := hosts[i], hosts[j]
			if min(a, b) < 0 || max(a, b) >= x.Nodes {
				continue
			}
			if path := bestOf(x, nil, a, b); len(path) > 0 {
				pairs = append(pairs, pair{i, j, probe(a, b, path...)})
			}
		}
	}
	slices.SortFunc(pairs, func(a, b pair) int { return 100*(a.i-b.i) + a.j - b.j })
	l := []impl.Probe{}
	for _, found := range pairs[:min(len(pairs), maxProbes)] {
		l = append(l, found.p)
	}
	return l
}

func TestProbesOfAllPairs(t *testing.T) {
	random := rand.New(rand.NewPCG(11, 958))
	counts := map[int]int{}
	for n, x := range slices.Concat(smallNets(), manyNets()) {
		hosts := make([]int, n%9)
		for i := range hosts {
			hosts[i] = random.IntN(x.Nodes+2) - random.IntN(2)
		}
		got, want := impl.ProbesOf(x, hosts), pairsOf(x, hosts)
		if !equalProbes(got, want) {
			t.Errorf("ProbesOf(%v, %v) is %v, not %v", x, hosts, got, want)
		}
		if !impl.AreProbes(x, got) {
			t.Errorf("ProbesOf(%v, %v) is %v, which are no probes", x, hosts, got)
		}
		counts[len(got)]++
	}
	for count := range maxProbes + 1 {
		if counts[count] < 5 {
			t.Errorf("only %d lists have %d probes", counts[count], count)
		}
	}
}

func TestAreProbes(t *testing.T) {
	tree := joined(7, 0, 4, 1, 4, 4, 5, 5, 2, 5, 3)
	circle := joined(4, 2, 3, 0, 1, 1, 2, 0, 3)
	cases := []struct {
		x    impl.Net
		p    impl.Probe
		want bool
	}{
		{tree, probe(0, 3, 0, 2, 4), true},
		{tree, probe(3, 0, 4, 2, 0), true},
		{tree, probe(4, 5, 2), true},
		// paths that are no routes: the longer way, and around a circle
		{circle, probe(0, 2, 3, 0), true},
		{circle, probe(0, 1, 3, 0, 2), true},
		{circle, probe(0, 0, 1, 2, 0, 3), true},
		{circle, probe(2, 2, 2, 1, 3, 0), true},
		// a path that is empty
		{tree, probe(0, 3), false},
		{tree, probe(0, 0), false},
		{tree, probe(4, 4), false},
		{tree, probe(-1, -1), false},
		{tree, impl.Probe{From: 2, To: 2, Path: []int{}}, false},
		// a path that has a link twice
		{tree, probe(0, 0, 0, 0), false},
		{tree, probe(0, 3, 0, 2, 2, 2, 4), false},
		{circle, probe(0, 1, 1, 2, 0, 3, 1), false},
		// a path that ends elsewhere
		{tree, probe(0, 3, 0, 2), false},
		{tree, probe(0, 2, 0, 2, 4), false},
		{tree, probe(0, 0, 0), false},
		{tree, probe(0, 7, 0), false},
		{tree, probe(0, -1, 0), false},
		{tree, probe(0, -1, 3), false},
		{tree, probe(0, -1, 7), false},
		// a path that does not begin at From
		{tree, probe(1, 3, 0, 2, 4), false},
		{tree, probe(3, 3, 0, 2, 4), false},
		{tree, probe(3, 0, 0, 2, 4), false},
		{tree, probe(5, 4, 0), false},
		{tree, probe(-1, 4, 0), false},
		{tree, probe(7, 4, 0), false},
		// a path that breaks off, and indices that no link has
		{tree, probe(0, 3, 0, 4), false},
		{tree, probe(0, 3, 2, 0, 4), false},
		{tree, probe(0, 4, -1), false},
		{tree, probe(0, 4, 5), false},
		{tree, probe(0, 3, 0, 2, 4, 5), false},
		{tree, probe(0, 3, 0, math.MinInt, 2, math.MaxInt, 4), false},
		{tree, impl.Probe{}, false},
	}
	for _, c := range cases {
		good := probe(c.x.Links[0].A, c.x.Links[0].B, 0)
		for _, l := range [][]impl.Probe{{c.p}, {c.p, good}, {good, c.p}, {good, c.p, good}, {c.p, c.p}, append(slices.Repeat([]impl.Probe{good}, maxProbes-1), c.p)} {
			if impl.AreProbes(c.x, l) != c.want {
				t.Errorf("AreProbes(%v, %v) is not %t", c.x, l, c.want)
			}
		}
	}
}

func TestAreProbesCountsThem(t *testing.T) {
	for _, x := range slices.Concat(nets, manyNets()) {
		l := []impl.Probe{}
		for n := range maxProbes + 3 {
			if want := n <= maxProbes; impl.AreProbes(x, l) != want {
				t.Errorf("AreProbes of %v and %d probes is not %t", x, n, want)
			}
			link := x.Links[n%len(x.Links)]
			l = append(l, probe(link.A, link.B, n%len(x.Links)))
		}
		if !impl.AreProbes(x, nil) {
			t.Errorf("no probe of %v is none", x)
		}
		l[maxProbes-1].Path = nil
		if impl.AreProbes(x, l[:maxProbes]) {
			t.Errorf("the last probe of %v may have no path", x)
		}
	}
}

func TestProbesLeadFromNodeToNode(t *testing.T) {
	for _, x := range nets {
		places := placesOf(x)
		for _, path := range indexLists(x, 3) {
			for _, from := range places {
				for _, to := range places {
					want := len(path) > 0 && isWithoutRepeats(path) && leads(x, path, from, to)
					if p := probe(from, to, path...); impl.AreProbes(x, []impl.Probe{p}) != want {
						t.Errorf("AreProbes(%v, %v) is not %t", x, p, want)
					}
				}
			}
		}
	}
}

func TestMatrixOf(t *testing.T) {
	three := along([]int{0, 1}, []int{0, 2}, []int{1, 2})
	cases := []struct {
		l     []impl.Probe
		links int
		want  [][]int
	}{
		{three, 4, rows([]int{1, 1, 0, 0}, []int{1, 0, 1, 0}, []int{0, 1, 1, 0})},
		{along([]int{4, 2, 0}), 5, rows([]int{1, 0, 1, 0, 1})},
		// no probe
		{nil, 4, nil},
		{[]impl.Probe{}, 1, nil},
		{nil, 0, nil},
		{nil, maxLinks + 1, nil},
		// numbers of links; each probe keeps its row, also an empty one
		{three, 0, rows(nil, nil, nil)},
		{three, 1, rows([]int{1}, []int{1}, []int{0})},
		{three, maxLinks, rows([]int{1, 1, 0, 0, 0, 0}, []int{1, 0, 1, 0, 0, 0}, []int{0, 1, 1, 0, 0, 0})},
		{three, maxLinks + 1, rows(nil, nil, nil)},
		{three, -1, rows(nil, nil, nil)},
		{three, math.MaxInt, rows(nil, nil, nil)},
		{three, math.MinInt, rows(nil, nil, nil)},
		// indices that are negative, beyond links, or there twice
		{along([]int{-1, 1}, []int{3, 0}, []int{2, 2}), 3, rows([]int{0, 1, 0}, []int{1, 0, 0}, []int{0, 0, 1})},
		{along([]int{math.MinInt}, []int{math.MaxInt, 64, 32}, []int{1, 0, 1, 0}), 2, rows([]int{0, 0}, []int{0, 0}, []int{1, 1})},
		// the empty path, and probes that are there twice
		{along(nil, []int{}, []int{1}, []int{1}), 2, rows([]int{0, 0}, []int{0, 0}, []int{0, 1}, []int{0, 1})},
		// the ends do not matter
		{[]impl.Probe{probe(-1, 99, 1), probe(math.MinInt, math.MaxInt, 0)}, 2, rows([]int{0, 1}, []int{1, 0})},
		// more than MaxProbes
		{along(slices.Repeat([][]int{{0}}, maxProbes+3)...), 1, slices.Repeat([][]int{{1}}, maxProbes+3)},
	}
	for _, c := range cases {
		if got := impl.MatrixOf(c.l, c.links); !equalRows(got, c.want) {
			t.Errorf("MatrixOf(%v, %d) is %v, not %v", c.l, c.links, got, c.want)
		}
	}
}

func TestRowsHaveExactlyTheLinksOfTheirProbes(t *testing.T) {
	for _, l := range manyProbes() {
		for links := -1; links <= maxLinks+1; links++ {
			m := impl.MatrixOf(l, links)
			if len(m) != len(l) {
				t.Fatalf("MatrixOf(%v, %d) is %v", l, links, m)
			}
			for i, row := range m {
				if want := links >= 1 && links <= maxLinks; want && len(row) != links || !want && len(row) != 0 {
					t.Errorf("MatrixOf(%v, %d) is %v", l, links, m)
				}
				for j, n := range row {
					if n != 0 && n != 1 || n == 1 != slices.Contains(l[i].Path, j) {
						t.Errorf("MatrixOf(%v, %d) is %v", l, links, m)
					}
				}
			}
		}
	}
}

// TestRowsOfProbesHaveTheirLengths counts the links of valid probes, none of
// which is on a path twice.
func TestRowsOfProbesHaveTheirLengths(t *testing.T) {
	for _, x := range slices.Concat(smallNets(), manyNets()) {
		hosts := []int{}
		for n := range x.Nodes {
			hosts = append(hosts, n)
		}
		l := impl.ProbesOf(x, hosts)
		m := impl.MatrixOf(l, len(x.Links))
		if len(l) > 0 && !impl.IsMatrix(m, len(x.Links)) {
			t.Errorf("MatrixOf(%v, %d) is %v", l, len(x.Links), m)
		}
		for i, p := range l {
			sum := 0
			for _, n := range m[i] {
				sum += n
			}
			if sum != len(p.Path) {
				t.Errorf("the row of %v is %v", p, m[i])
			}
		}
	}
}

func TestSeenLinks(t *testing.T) {
	cases := []struct {
		paths [][]int
		want  []int
	}{
		{[][]int{{0, 2}, {1}}, []int{0, 1, 2}},
		{[][]int{{3}}, []int{3}},
		// no probe, and empty paths
		{nil, nil},
		{[][]int{}, nil},
		{[][]int{nil, {}}, nil},
		{[][]int{nil, {4}, {}}, []int{4}},
		// paths that share links, and a link twice on one path
		{[][]int{{0, 1}, {1, 0}, {0, 1}}, []int{0, 1}},
		{[][]int{{0, 1}, {0, 2}, {1, 2}}, []int{0, 1, 2}},
		{[][]int{{4, 2, 0}, {2, 5}, {2}}, []int{0, 2, 4, 5}},
		{[][]int{{3, 3, 3}, {1, 3}}, []int{1, 3}},
		// ascending order, whatever the order of the paths and on them
		{[][]int{{5}, {4}, {3}, {2}, {1}, {0}}, []int{0, 1, 2, 3, 4, 5}},
		{[][]int{{5, 4, 3, 2, 1, 0}}, []int{0, 1, 2, 3, 4, 5}},
		{[][]int{{4, 1}, {5, 0}}, []int{0, 1, 4, 5}},
		// numbers that no link of a network has
		{[][]int{{6}}, []int{6}},
		{[][]int{{-1}}, []int{-1}},
		{[][]int{{5, 6}}, []int{5, 6}},
		{[][]int{{0, 7, 2}, {-3, 0}}, []int{-3, 0, 2, 7}},
		{[][]int{{-1, 0, 6}, {5, 7}}, []int{-1, 0, 5, 6, 7}},
		{[][]int{{6, 6}, {-1}, {6, -1, 6}}, []int{-1, 6}},
		{[][]int{{64, 0}}, []int{0, 64}},
		{[][]int{{-64, -63, -32, -6, -5}, {31, 32, 33, 63, 64, 65, 128, 256}}, []int{-64, -63, -32, -6, -5, 31, 32, 33, 63, 64, 65, 128, 256}},
		{[][]int{{1 << 32, 1<<32 + 1, 1 << 62}, {1}}, []int{1, 1 << 32, 1<<32 + 1, 1 << 62}},
		{[][]int{{math.MaxInt, 2}, {math.MinInt, 4, math.MaxInt}}, []int{math.MinInt, 2, 4, math.MaxInt}},
		{[][]int{{math.MinInt}, {math.MinInt, math.MinInt}}, []int{math.MinInt}},
	}
	for _, c := range cases {
		if got := impl.SeenLinks(along(c.paths...)); !slices.Equal(got, c.want) {
			t.Errorf("SeenLinks of %v is %v, not %v", c.paths, got, c.want)
		}
	}
}

func TestSeenLinksAreAllOfThePaths(t *testing.T) {
	for _, l := range manyProbes() {
		seen := impl.SeenLinks(l)
		for i, n := range seen {
			if i > 0 && seen[i-1] >= n || !slices.ContainsFunc(l, func(p impl.Probe) bool { return slices.Contains(p.Path, n) }) {
				t.Errorf("SeenLinks(%v) is %v", l, seen)
			}
		}
		for _, p := range l {
			for _, n := range p.Path {
				if !slices.Contains(seen, n) {
					t.Errorf("SeenLinks(%v) is %v, without %d", l, seen, n)
				}
			}
		}
	}
}

// TestSeenLinksHaveColumns compares the links of a network with the columns of
// the matrix.
func TestSeenLinksHaveColumns(t *testing.T) {
	for _, l := range manyProbes() {
		seen := impl.SeenLinks(l)
		for i := range maxLinks {
			isOne := func(row []int) bool { return row[i] == 1 }
			if slices.Contains(seen, i) != slices.ContainsFunc(impl.MatrixOf(l, maxLinks), isOne) {
				t.Errorf("SeenLinks(%v) is %v", l, seen)
			}
		}
	}
}

func TestSeenLinksOfManyProbes(t *testing.T) {
	l := along(slices.Repeat([][]int{{3, 1}, {3}, {-9}}, 10000)...)
	if got := impl.SeenLinks(append(l, probe(0, 0, 2))); !slices.Equal(got, []int{-9, 1, 2, 3}) {
		t.Errorf("SeenLinks of many probes is %v", got)
	}
}

func TestAloneOn(t *testing.T) {
	cases := []struct {
		paths [][]int
		link  int
		want  int
	}{
		// a probe of one link
		{[][]int{{3}}, 3, 0},
		{[][]int{{0, 1}, {3}}, 3, 1},
		{[][]int{{2}, {1}, {0}}, 0, 2},
		{[][]int{{5}}, 5, 0},
		// several such probes of the same link
		{[][]int{{0, 1}, {2}, {2}, {2}}, 2, 1},
		{[][]int{{1}, {2}, {1}, {2}}, 2, 1},
		{[][]int{{0}, {0}}, 0, 0},
		// longer paths that contain the link, also twice
		{[][]int{{3, 1}, {1, 3}, {0, 3, 1}}, 3, -1},
		{[][]int{{3, 1}, {3}}, 3, 1},
		{[][]int{{3, 3}}, 3, -1},
		{[][]int{{3, 3, 3}, {3}}, 3, 1},
		{[][]int{{3, -1}, {6, 3}}, 3, -1},
		// an empty path, and no probe
		{[][]int{nil, {}}, 0, -1},
		{[][]int{nil, {}, {0}}, 0, 2},
		{nil, 0, -1},
		{nil, -1, -1},
		// a link that no probe has alone
		{[][]int{{0}, {1}, {2, 3}}, 2, -1},
		{[][]int{{0}, {1}}, 5, -1},
		{[][]int{{0}, {1}}, 6, -1},
		{[][]int{{0}, {1}}, -1, -1},
		{[][]int{{0}, {1}}, 64, -1},
		{[][]int{{0}}, math.MinInt, -1},
		{[][]int{{0}}, math.MaxInt, -1},
		{[][]int{{0}}, 1 << 32, -1},
		// what no link of a network is, is compared as it stands
		{[][]int{{0}, {-1}}, -1, 1},
		{[][]int{{9}, {6}, {math.MinInt}}, math.MinInt, 2},
	}
	for _, c := range cases {
		if got := impl.AloneOn(along(c.paths...), c.link); got != c.want {
			t.Errorf("AloneOn %v and link %d is %d, not %d", c.paths, c.link, got, c.want)
		}
	}
}

func TestAloneOnIsTheFirst(t *testing.T) {
	found := 0
	for _, l := range manyProbes() {
		for link := -2; link <= maxLinks+1; link++ {
			want := -1
			for i := len(l) - 1; i >= 0; i-- {
				if slices.Equal(l[i].Path, []int{link}) {
					want = i
				}
			}
			if got := impl.AloneOn(l, link); got != want {
				t.Errorf("AloneOn(%v, %d) is %d, not %d", l, link, got, want)
			}
			if want > 0 {
				found++
			}
		}
	}
	if found < 1000 {
		t.Errorf("only %d probes are found behind others", found)
	}
}

// probeFunctions are called with a network, hosts and probes; what they return
// is wiped out, spare room included.
var probeFunctions = []struct {
	name string
	call func(x impl.Net, hosts []int, l []impl.Probe)
}{
	{"ProbeFor", func(x impl.Net, hosts []int, l []impl.Probe) {
		p, _ := impl.ProbeFor(x, hosts[0], hosts[1])
		wipe(p.Path)
	}},
	{"ProbesOf", func(x impl.Net, hosts []int, l []impl.Probe) { wipeProbes(impl.ProbesOf(x, hosts)) }},
	{"AreProbes", func(x impl.Net, hosts []int, l []impl.Probe) { impl.AreProbes(x, l) }},
	{"MatrixOf", func(x impl.Net, hosts []int, l []impl.Probe) { wipeRows(impl.MatrixOf(l, len(x.Links))) }},
	{"MatrixOf beyond", func(x impl.Net, hosts []int, l []impl.Probe) { wipeRows(impl.MatrixOf(l, 0)) }},
	{"SeenLinks", func(x impl.Net, hosts []int, l []impl.Probe) { wipe(impl.SeenLinks(l)) }},
	{"AloneOn", func(x impl.Net, hosts []int, l []impl.Probe) { impl.AloneOn(l, hosts[0]) }},
}

func wipeRows(m [][]int) {
	m = m[:cap(m)]
	for i := range m {
		wipe(m[i])
		m[i] = nil
	}
}

func wipeProbes(l []impl.Probe) {
	l = l[:cap(l)]
	for i := range l {
		wipe(l[i].Path)
		l[i] = impl.Probe{From: -99}
	}
}

// roomyProbes returns a copy with spare room behind the list and each path, and
// a function that reports whether all of it is as it was.
func roomyProbes(l []impl.Probe) ([]impl.Probe, func() bool) {
	whole := append(cloneProbes(l), slices.Repeat([]impl.Probe{probe(77, 88, 9)}, 8)...)
	checks := []func() bool{}
	for i := range l {
		path, isUnchanged := roomy(whole[i].Path)
		whole[i].Path = path
		checks = append(checks, isUnchanged)
	}
	before := cloneProbes(whole)
	return whole[:len(l)], func() bool {
		for _, isUnchanged := range checks {
			if !isUnchanged() {
				return false
			}
		}
		return equalProbes(whole, before)
	}
}

func TestProbeFunctionsLeaveTheirArguments(t *testing.T) {
	for _, given := range slices.Concat(nets, strangeNets, manyNets()[:300]) {
		x, isNetUnchanged := roomyLinks(given)
		hosts, areHostsUnchanged := roomy(append([]int{6, 2, 5, 2, 0, 1}, placesOf(given)...))
		lists := [][]impl.Probe{impl.ProbesOf(given, []int{4, 0, 3, 2, 1}), along(strangePaths...), nil}
		for _, list := range lists {
			l, areProbesUnchanged := roomyProbes(list)
			for _, f := range probeFunctions {
				f.call(x, hosts, l)
				f.call(x, hosts, l[:len(l)/2])
				f.call(x, hosts, l[:min(len(l), 1)])
				if !isNetUnchanged() || !areHostsUnchanged() || !areProbesUnchanged() {
					t.Fatalf("%s changes an argument: %v, %v or %v", f.name, given, hosts, list)
				}
			}
		}
	}
}

func TestProbesAndRowsShareNoMemory(t *testing.T) {
	for n, x := range manyNets() {
		// Hosts that are there twice have the same probes.
		hosts := []int{n % x.Nodes, 1, n % x.Nodes, 0, 1, 2}
		want, l := pairsOf(x, hosts), impl.ProbesOf(x, hosts)
		links := len(x.Links)
		for i := range want {
			m := impl.MatrixOf(want, links)
			other := cloneRows(m)
			wipe(m[i])
			if other[i] = m[i]; !equalRows(m, other) {
				t.Fatalf("the rows of %v share memory", want)
			}
			wipe(l[i].Path)
			if !equalProbes(l[i+1:], want[i+1:]) || !equalProbes(impl.ProbesOf(x, hosts), want) {
				t.Fatalf("the probes of %v for %v share memory", x, hosts)
			}
			p, _ := impl.ProbeFor(x, want[i].From, want[i].To)
			wipe(p.Path)
			if p, _ = impl.ProbeFor(x, want[i].From, want[i].To); !isSameProbe(p, want[i]) {
				t.Fatalf("ProbeFor %v, %v shares memory", x, want[i])
			}
		}
		first, second := impl.SeenLinks(want), impl.SeenLinks(want)
		seen := slices.Clone(second)
		wipe(first)
		if !slices.Equal(second, seen) || !slices.Equal(impl.SeenLinks(want), seen) {
			t.Fatalf("SeenLinks(%v) keeps its results", want)
		}
	}
}
