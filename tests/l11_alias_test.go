package tests

import (
	"math"
	"math/rand/v2"
	"slices"
	"testing"

	"loop.example/g00958/impl"
)

const (
	maxReplies = impl.MaxReplies
	maxAddress = 20
)

func reply(address, time, id int) impl.Reply {
	return impl.Reply{Address: address, Time: time, Id: id}
}

func replies(l ...impl.Reply) []impl.Reply {
	return l
}

// from returns as many replies of the addresses in turn, with Times and Ids
// that ascend along the list.
func from(count int, addresses ...int) []impl.Reply {
	l := []impl.Reply{}
	for i := range count {
		l = append(l, reply(addresses[i%len(addresses)], 10+i, 40+i))
	}
	return l
}

// goodReplies are valid, each for what it has at a limit or has none of.
func goodReplies() [][]impl.Reply {
	l := [][]impl.Reply{
		nil, {}, from(1, 5), from(2, 5), from(2, 5, 6), from(maxReplies-1, 3, 4, 5), from(maxReplies, 3, 4, 5), from(maxReplies, 7),
		from(maxReplies, 0, 1, 2, 3, 4, 5, 6, 7, 8, 9, 10, 11), from(maxReplies, 20, 19, 18, 17, 16, 15, 14, 13, 12, 11, 10, 9),
		// Times that are not in order, and Ids that are equal or descend
		{reply(1, 9, 3), reply(1, 4, 7), reply(2, 6, 3), reply(1, 0, 3)},
		{reply(1, 1, 9), reply(1, 2, 9), reply(2, 3, 8), reply(3, 4, 0)},
		// Times next to each other, and replies that are alike but for them
		{reply(1, 5, 5), reply(1, 4, 5), reply(1, 6, 5)}, {reply(0, 0, 0), reply(0, 1, 0), reply(0, maxStamp, 0)},
		{reply(20, maxStamp, maxStamp), reply(20, maxStamp-1, maxStamp), reply(20, 0, maxStamp)},
	}
	for _, given := range [][]impl.Reply{from(1, 5), from(2, 5, 6), from(5, 5, 6, 5), from(maxReplies, 5, 6, 7)} {
		for place := range given {
			for _, r := range []impl.Reply{
				reply(0, given[place].Time, given[place].Id), reply(20, given[place].Time, given[place].Id),
				reply(5, 0, given[place].Id), reply(5, maxStamp, given[place].Id),
				reply(5, given[place].Time, 0), reply(5, given[place].Time, maxStamp),
			} {
				l = append(l, withReply(given, place, r))
			}
		}
	}
	return l
}

// withReply returns the list with another reply at a place.
func withReply(l []impl.Reply, place int, r impl.Reply) []impl.Reply {
	l = slices.Clone(l)
	l[place] = r
	return l
}

// badReplies are refused, each for one reason alone. The last ones are too many.
func badReplies() [][]impl.Reply {
	l := [][]impl.Reply{
		// the same Time next to each other, far apart, of one address and of two
		{reply(1, 10, 1), reply(2, 10, 2)}, {reply(1, 10, 1), reply(1, 10, 2)}, {reply(1, 10, 1), reply(1, 10, 1)},
		{reply(1, 0, 1), reply(2, 0, 2)}, {reply(1, maxStamp, 1), reply(2, maxStamp, 2)},
	}
	for _, given := range [][]impl.Reply{from(1, 5), from(2, 5, 6), from(3, 5, 6), from(7, 5, 6, 7), from(maxReplies, 5)} {
		for place, r := range given {
			for _, n := range []int{-1, -2, maxAddress + 1, maxAddress + 2, 100, math.MinInt, math.MaxInt, 1 << 32} {
				l = append(l, withReply(given, place, reply(n, r.Time, r.Id)))
			}
			for _, n := range append(notStamps, math.MinInt+1, math.MaxInt-1, 1<<32) {
				l = append(l, withReply(given, place, reply(r.Address, n, r.Id)), withReply(given, place, reply(r.Address, r.Time, n)))
			}
			for other := range given[:place] {
				l = append(l, withReply(given, place, reply(r.Address, given[other].Time, r.Id)), withReply(given, other, reply(given[other].Address, r.Time, given[other].Id)))
			}
		}
	}
	return append(l, from(maxReplies+1, 5), from(maxReplies+1, 5, 6, 7), from(maxReplies+2, 1, 2), from(5000, 4))
}

// manyReplies returns lists at random, of every length, with few numbers and
// with many, and such that several routers have sent.
func manyReplies(seed uint64) [][]impl.Reply {
	random := rand.New(rand.NewPCG(seed, 958))
	l := goodReplies()
	for n := range 6000 {
		count := n % (maxReplies + 1)
		addresses := 1 + random.IntN(8)
		most := []int{maxReplies, 30, maxStamp}[n%3]
		given := []impl.Reply{}
		for _, time := range distinct(random, count, most) {
			address := random.IntN(addresses)
			id := random.IntN(most + 1)
			if n%4 > 0 {
				// Addresses are of one router or of another by their remainder.
				id = min(maxStamp, time+(address%(n%4))*random.IntN(3))
			}
			given = append(given, reply(maxAddress-2*address, time, id))
		}
		l = append(l, given)
	}
	return l
}

// distinct returns as many numbers from 0 to most, and none of them twice.
func distinct(random *rand.Rand, count, most int) []int {
	l := []int{}
	for len(l) < count {
		if n := random.IntN(most + 1); !slices.Contains(l, n) {
			l = append(l, n)
		}
	}
	return l
}

// eachFew calls a function with all lists of as many replies of as many
// addresses, with Times and Ids less than their number.
func eachFew(count, addresses int, call func(l []impl.Reply)) {
	l := make([]impl.Reply, count)
	var choose func(place int)
	choose = func(place int) {
		if place == count {
			call(l)
			return
		}
		for n := range count {
			if slices.ContainsFunc(l[:place], func(r impl.Reply) bool { return r.Time == n }) {
				continue
			}
			for address := range addresses {
				for id := range count {
					l[place] = reply(address, n, id)
					choose(place + 1)
				}
			}
		}
	}
	choose(0)
}

// agree reports whether no two replies of these addresses show two routers.
func agree(l []impl.Reply, addresses []int) bool {
	for _, r := range l {
		for _, s := range l {
			if slices.Contains(addresses, r.Address) && slices.Contains(addresses, s.Address) && r.Time < s.Time && r.Id >= s.Id {
				return false
			}
		}
	}
	return true
}

func TestReplyLimit(t *testing.T) {
	if maxReplies != 12 {
		t.Errorf("MaxReplies is %d", maxReplies)
	}
}

func TestAreReplies(t *testing.T) {
	for _, l := range manyReplies(29) {
		if !impl.AreReplies(l) {
			t.Errorf("%v are no replies", l)
		}
	}
	for _, l := range badReplies() {
		if impl.AreReplies(l) {
			t.Errorf("%v are replies", l)
		}
	}
}

func TestMayBeOne(t *testing.T) {
	sorted := replies(reply(1, 10, 100), reply(5, 11, 101), reply(3, 12, 40), reply(1, 13, 105), reply(3, 14, 50), reply(5, 15, 106))
	mixed := replies(reply(3, 14, 50), reply(1, 13, 105), reply(5, 15, 106), reply(1, 10, 100), reply(3, 12, 40), reply(5, 11, 101))
	cases := []struct {
		l         []impl.Reply
		addresses []int
		want      bool
	}{
		{sorted, []int{1}, true}, {sorted, []int{3}, true}, {sorted, []int{5}, true},
		{sorted, []int{1, 5}, true}, {sorted, []int{5, 1}, true}, {sorted, []int{1, 3}, false}, {sorted, []int{5, 3}, false}, {sorted, []int{1, 3, 5}, false},
		// Ids ascend with the Times, not along the list
		{mixed, []int{1}, true}, {mixed, []int{3}, true}, {mixed, []int{5}, true},
		{mixed, []int{1, 5}, true}, {mixed, []int{5, 1}, true}, {mixed, []int{1, 3}, false}, {mixed, []int{5, 3}, false}, {mixed, []int{5, 3, 1}, false},
		{replies(reply(1, 9, 8), reply(2, 4, 3)), []int{1, 2}, true}, {replies(reply(1, 9, 8), reply(1, 4, 3)), []int{1}, true},
		{replies(reply(1, 9, 3), reply(2, 4, 8)), []int{1, 2}, false}, {replies(reply(1, 9, 3), reply(1, 4, 8)), []int{1}, false},
		{replies(reply(1, maxStamp, 1), reply(2, 0, 0)), []int{1, 2}, true}, {replies(reply(1, 0, 0), reply(2, maxStamp, maxStamp)), []int{1, 2}, true},
		// equal Ids, of two addresses and of one, with the Times in both orders, and apart
		{replies(reply(1, 1, 5), reply(2, 2, 5)), []int{1, 2}, false}, {replies(reply(1, 2, 5), reply(2, 1, 5)), []int{1, 2}, false},
		{replies(reply(1, 1, 5), reply(1, 2, 5)), []int{1}, false}, {replies(reply(1, 2, 5), reply(1, 1, 5)), []int{1}, false},
		{replies(reply(1, 1, 5), reply(2, 2, 5)), []int{1}, true}, {replies(reply(1, 1, 5), reply(2, 2, 5)), []int{2}, true},
		{replies(reply(1, 1, 0), reply(2, 2, 0)), []int{1, 2}, false}, {replies(reply(1, 1, maxStamp), reply(1, 2, maxStamp)), []int{1}, false},
		{replies(reply(1, 1, 4), reply(2, 2, 5), reply(1, 3, 5)), []int{1, 2}, false}, {replies(reply(1, 1, 4), reply(2, 2, 4), reply(1, 3, 5)), []int{1, 2}, false},
		{replies(reply(1, 1, 4), reply(2, 2, 9), reply(1, 3, 4)), []int{1}, false}, {replies(reply(1, 1, 4), reply(2, 2, 5), reply(1, 3, 4)), []int{1, 2}, false},
		// Ids that descend, also only between others, and only among some
		{replies(reply(1, 1, 9), reply(1, 2, 8), reply(1, 3, 7)), []int{1}, false}, {replies(reply(1, 1, 1), reply(1, 2, 3), reply(1, 3, 2)), []int{1}, false},
		{replies(reply(1, 1, 3), reply(1, 2, 2), reply(1, 3, 4)), []int{1}, false}, {replies(reply(1, 1, 9), reply(2, 2, 8), reply(3, 3, 7)), []int{1, 3}, false},
		{replies(reply(1, 1, 5), reply(2, 2, 1), reply(1, 3, 6)), []int{1}, true}, {replies(reply(1, 1, 5), reply(2, 2, 9), reply(1, 3, 6)), []int{1, 2}, false},
		{replies(reply(1, 1, 5), reply(2, 2, 1), reply(1, 3, 6)), []int{2}, true}, {replies(reply(1, 1, 5), reply(2, 2, 6), reply(1, 3, 7)), []int{1, 2}, true},
		// addresses that no reply has, alone and beside others, also out of range
		{sorted, []int{2}, true}, {sorted, []int{0, 20}, true}, {sorted, []int{2, 1, 5, 4}, true}, {sorted, []int{2, 1, 3, 4}, false},
		{sorted, []int{-1}, true}, {sorted, []int{21}, true}, {sorted, []int{-1, 21, math.MinInt, math.MaxInt}, true}, {sorted, []int{21, 1, -1, 5}, true},
		{sorted, []int{-1, 1, 21, 3}, false}, {sorted, []int{1 << 32, 1<<32 + 1, 3}, true}, {sorted, []int{-3, 1}, true}, {sorted, []int{math.MaxInt, 5, 3}, false},
		{replies(reply(0, 1, 5), reply(20, 2, 5)), []int{-1, 21, 0}, true}, {replies(reply(0, 1, 5), reply(20, 2, 5)), []int{20, 0}, false},
		// the same address several times
		{sorted, []int{1, 1}, true}, {sorted, []int{1, 5, 1, 5, 5}, true}, {sorted, []int{3, 1, 3}, false}, {sorted, slices.Repeat([]int{1, 5}, 3000), true},
		// no addresses
		{sorted, nil, true}, {sorted, []int{}, true}, {replies(reply(1, 1, 5), reply(1, 2, 5)), nil, true},
		// one reply, with the least numbers, and none
		{replies(reply(1, 1, 0)), []int{1}, true}, {replies(reply(0, 0, 0)), []int{0}, true}, {replies(reply(0, 0, 0), reply(0, 1, 1)), []int{0}, true},
		{nil, nil, true}, {nil, []int{1, 2}, true}, {replies(), []int{-1}, true},
	}
	for _, c := range cases {
		if got := impl.MayBeOne(c.l, c.addresses); got != c.want {
			t.Errorf("MayBeOne(%v, %v) is %t", c.l, c.addresses, got)
		}
	}
}

// The list does not hold for any addresses if it is not valid, also not for
// those that have nothing to do with the reason.
func TestMayBeOneOfNoReplies(t *testing.T) {
	for _, l := range badReplies() {
		for _, addresses := range [][]int{nil, {}, {5}, {6}, {7}, {9}, {5, 6}, {-1, 21}, {-1}, {21}} {
			if impl.MayBeOne(l, addresses) {
				t.Errorf("MayBeOne(%v, %v) is true", l, addresses)
			}
		}
	}
}

// subsets returns all choices of some of the addresses.
func subsets(addresses []int) [][]int {
	l := [][]int{nil}
	for _, a := range addresses {
		for _, s := range slices.Clone(l) {
			l = append(l, append([]int{a}, s...))
		}
	}
	return l
}

func TestMayBeOneLooksAtEachTwo(t *testing.T) {
	one, several := 0, 0
	check := func(l []impl.Reply) {
		for _, addresses := range subsets(addressesIn(l)) {
			want := agree(l, addresses)
			if impl.MayBeOne(l, addresses) != want {
				t.Fatalf("MayBeOne(%v, %v) is not %t", l, addresses, want)
			}
			if len(addresses) > 1 && want {
				one++
			} else if len(addresses) > 1 {
				several++
			}
		}
	}
	for _, l := range manyReplies(30) {
		check(l)
	}
	for count := range 5 {
		eachFew(count, 2, check)
	}
	if one < 2000 || several < 2000 {
		t.Errorf("%d may be one, and %d may not", one, several)
	}
}

// addressesIn tries all numbers that a test uses as an address.
func addressesIn(l []impl.Reply) []int {
	addresses := []int{}
	for _, n := range slices.Concat([]int{math.MinInt, -2, -1}, countTo(120), []int{1 << 32, math.MaxInt}) {
		if slices.ContainsFunc(l, func(r impl.Reply) bool { return r.Address == n }) {
			addresses = append(addresses, n)
		}
	}
	return addresses
}

// countTo returns the numbers from 0 to less than n.
func countTo(n int) []int {
	l := make([]int, n)
	for i := range l {
		l[i] = i
	}
	return l
}

func TestAddressesOf(t *testing.T) {
	cases := []struct {
		l    []impl.Reply
		want []int
	}{
		{nil, nil}, {replies(), nil}, {from(1, 7), []int{7}}, {from(1, 0), []int{0}}, {from(1, 20), []int{20}},
		// an address several times, next to each other and apart
		{from(3, 7), []int{7}}, {from(maxReplies, 7), []int{7}}, {from(6, 7, 3), []int{3, 7}}, {from(5, 3, 7, 3, 3), []int{3, 7}},
		// in every order, of the addresses and of the Times
		{from(3, 1, 2, 3), []int{1, 2, 3}}, {from(3, 3, 2, 1), []int{1, 2, 3}}, {from(3, 2, 3, 1), []int{1, 2, 3}}, {from(4, 20, 9, 10, 0), []int{0, 9, 10, 20}},
		{replies(reply(5, 9, 1), reply(3, 4, 1), reply(5, 2, 2), reply(4, 7, 3), reply(3, 1, 1)), []int{3, 4, 5}},
		{from(maxReplies, 11, 10, 9, 8, 7, 6, 5, 4, 3, 2, 1, 0), []int{0, 1, 2, 3, 4, 5, 6, 7, 8, 9, 10, 11}},
		// lists that are not valid
		{replies(reply(21, 1, 1)), []int{21}}, {replies(reply(-1, 1, 1)), []int{-1}}, {from(4, 21, 0, -1, 20), []int{-1, 0, 20, 21}},
		{from(5, math.MaxInt, 3, math.MinInt, -3, 3), []int{math.MinInt, -3, 3, math.MaxInt}},
		{replies(reply(3, 5, 1), reply(2, 5, 1)), []int{2, 3}}, {replies(reply(3, 5, 1), reply(3, 5, 1)), []int{3}},
		{replies(reply(3, -1, 1), reply(2, maxStamp+1, 1)), []int{2, 3}}, {replies(reply(3, 1, -1), reply(2, 2, maxStamp+1)), []int{2, 3}},
		{from(maxReplies+1, 4, 2), []int{2, 4}}, {from(maxReplies+1, 12, 11, 10, 9, 8, 7, 6, 5, 4, 3, 2, 1, 0), []int{0, 1, 2, 3, 4, 5, 6, 7, 8, 9, 10, 11, 12}},
		{from(5000, countTo(120)...), countTo(120)},
	}
	for _, c := range cases {
		if got := impl.AddressesOf(c.l); !slices.Equal(got, c.want) {
			t.Errorf("AddressesOf(%v) is %v, not %v", c.l, got, c.want)
		}
	}
	for _, l := range slices.Concat(manyReplies(31), badReplies()) {
		if got, want := impl.AddressesOf(l), addressesIn(l); !slices.Equal(got, want) {
			t.Errorf("AddressesOf(%v) is %v, not %v", l, got, want)
		}
	}
}

func TestGroupsOf(t *testing.T) {
	cases := []struct {
		l    []impl.Reply
		want [][]int
	}{
		{replies(reply(1, 10, 100), reply(5, 11, 101), reply(3, 12, 40), reply(1, 13, 105), reply(3, 14, 50), reply(5, 15, 106)), rows([]int{1, 5}, []int{3})},
		{nil, nil}, {replies(), nil},
		// one address
		{replies(reply(7, 1, 1)), rows([]int{7})}, {from(maxReplies, 7), rows([]int{7})}, {replies(reply(0, 0, 0)), rows([]int{0})}, {replies(reply(20, maxStamp, maxStamp)), rows([]int{20})},
		// all may be one router
		{from(2, 20, 0), rows([]int{0, 20})}, {from(6, 3, 1, 2), rows([]int{1, 2, 3})}, {from(maxReplies, 11, 10, 9, 8, 7, 6, 5, 4, 3, 2, 1, 0), rows(countTo(12))},
		{replies(reply(4, 9, 30), reply(2, 1, 10), reply(8, 5, 20), reply(2, 7, 25)), rows([]int{2, 4, 8})},
		// none may be with another, by Ids that descend and by equal ones
		{replies(reply(1, 1, 9), reply(2, 2, 8), reply(3, 3, 7)), rows([]int{1}, []int{2}, []int{3})},
		{replies(reply(3, 1, 9), reply(1, 2, 8), reply(2, 3, 7)), rows([]int{1}, []int{2}, []int{3})},
		{replies(reply(1, 1, 5), reply(2, 2, 5), reply(3, 3, 5)), rows([]int{1}, []int{2}, []int{3})},
		{replies(reply(9, 1, 5), reply(8, 2, 5), reply(7, 3, 5), reply(6, 4, 5)), rows([]int{6}, []int{7}, []int{8}, []int{9})},
		{replies(reply(0, 7, 0), reply(20, 6, 1)), rows([]int{0}, []int{20})},
		// 3 fits to 1 and to 2: it joins the first one
		{replies(reply(1, 1, 20), reply(2, 2, 10), reply(3, 3, 30)), rows([]int{1, 3}, []int{2})},
		{replies(reply(2, 1, 20), reply(1, 2, 10), reply(3, 3, 30)), rows([]int{1, 3}, []int{2})},
		// 4 fits to 2 and to 3, but not to 1
		{replies(reply(1, 1, 40), reply(2, 2, 20), reply(3, 3, 10), reply(4, 4, 30)), rows([]int{1}, []int{2, 4}, []int{3})},
		// 3 fits to 2 alone, and 5 to 4 alone
		{replies(reply(1, 1, 40), reply(2, 2, 20), reply(3, 3, 30)), rows([]int{1}, []int{2, 3})},
		{replies(reply(1, 1, 90), reply(2, 2, 80), reply(4, 3, 10), reply(5, 4, 20)), rows([]int{1}, []int{2}, []int{4, 5})},
		// two may each be one with a third, but not with each other; the third is 1, 2 or 3
		{replies(reply(1, 1, 5), reply(2, 2, 20), reply(3, 3, 10)), rows([]int{1, 2}, []int{3})},
		{replies(reply(2, 1, 5), reply(1, 2, 20), reply(3, 3, 10)), rows([]int{1, 2}, []int{3})},
		{replies(reply(3, 1, 5), reply(1, 2, 20), reply(2, 3, 10)), rows([]int{1, 3}, []int{2})},
		// 3 fits to 1, but not to 2 beside it; 4 fits to both of them, or to 3
		{replies(reply(1, 1, 5), reply(2, 2, 20), reply(3, 3, 10), reply(4, 4, 30)), rows([]int{1, 2, 4}, []int{3})},
		{replies(reply(1, 1, 5), reply(2, 2, 20), reply(3, 3, 10), reply(4, 4, 15)), rows([]int{1, 2}, []int{3, 4})},
		// two routers whose addresses alternate
		{replies(reply(1, 1, 500), reply(2, 2, 10), reply(3, 3, 501), reply(4, 4, 11), reply(5, 5, 502), reply(6, 6, 12)), rows([]int{1, 3, 5}, []int{2, 4, 6})},
		{replies(reply(6, 1, 500), reply(5, 2, 10), reply(4, 3, 501), reply(3, 4, 11), reply(2, 5, 502), reply(1, 6, 12)), rows([]int{1, 3, 5}, []int{2, 4, 6})},
		// an address that is not one router by itself is alone, wherever it stands
		{replies(reply(1, 1, 5), reply(1, 2, 5)), rows([]int{1})}, {replies(reply(1, 1, 5), reply(1, 2, 4)), rows([]int{1})},
		{replies(reply(1, 1, 5), reply(1, 2, 5), reply(2, 3, 6), reply(3, 4, 7)), rows([]int{1}, []int{2, 3})},
		{replies(reply(2, 1, 5), reply(2, 2, 4), reply(1, 3, 6), reply(3, 4, 7)), rows([]int{1, 3}, []int{2})},
		{replies(reply(3, 1, 5), reply(3, 2, 4), reply(1, 3, 6), reply(2, 4, 7)), rows([]int{1, 2}, []int{3})},
		{replies(reply(1, 1, 5), reply(1, 2, 5), reply(2, 3, 6), reply(2, 4, 6)), rows([]int{1}, []int{2})},
		{replies(reply(1, 1, 5), reply(1, 2, 5), reply(3, 3, 6), reply(2, 4, 7), reply(2, 5, 7)), rows([]int{1}, []int{2}, []int{3})},
	}
	for _, c := range cases {
		if got := impl.GroupsOf(c.l); !equalRows(got, c.want) {
			t.Errorf("GroupsOf(%v) is %v, not %v", c.l, got, c.want)
		}
	}
	for _, l := range badReplies() {
		if got := impl.GroupsOf(l); len(got) != 0 {
			t.Errorf("GroupsOf(%v) is %v", l, got)
		}
	}
}

// greedyGroups takes the addresses one by one, and looks at each two replies.
func greedyGroups(l []impl.Reply) [][]int {
	groups := [][]int{}
	for _, a := range addressesIn(l) {
		place := slices.IndexFunc(groups, func(g []int) bool { return agree(l, append(slices.Clone(g), a)) })
		if place < 0 {
			groups = append(groups, []int{a})
		} else {
			groups[place] = append(groups[place], a)
		}
	}
	return groups
}

func TestGroupsOfTakesTheFirstThatFits(t *testing.T) {
	sizes := map[int]int{}
	check := func(l []impl.Reply) {
		want := greedyGroups(l)
		if got := impl.GroupsOf(l); !equalRows(got, want) {
			t.Fatalf("GroupsOf(%v) is %v, not %v", l, got, want)
		}
		sizes[len(want)]++
	}
	for _, l := range manyReplies(32) {
		check(l)
	}
	for count := range 5 {
		eachFew(count, 3, check)
	}
	for groups := 1; groups <= 5; groups++ {
		if sizes[groups] < 100 {
			t.Errorf("only %d lists have %d groups", sizes[groups], groups)
		}
	}
}

// checkGroups checks what holds for the groups of any replies.
func checkGroups(t *testing.T, l []impl.Reply) {
	t.Helper()
	groups, all := impl.GroupsOf(l), []int{}
	for _, g := range groups {
		if len(g) > 1 && !impl.MayBeOne(l, g) {
			t.Fatalf("MayBeOne(%v, %v) is false, but they are a group", l, g)
		}
		for i, a := range g {
			for _, b := range g[:i] {
				if impl.SurelyApart(l, a, b) || impl.SurelyApart(l, b, a) {
					t.Fatalf("SurelyApart(%v, %d, %d) is true, but they are in a group", l, a, b)
				}
			}
		}
		if len(g) == 0 || !slices.IsSorted(g) {
			t.Fatalf("GroupsOf(%v) is %v: %v is empty or not in order", l, groups, g)
		}
		all = append(all, g...)
	}
	slices.Sort(all)
	if want := impl.AddressesOf(l); impl.AreReplies(l) && !slices.Equal(all, want) || !impl.AreReplies(l) && len(all) > 0 {
		t.Fatalf("GroupsOf(%v) is %v, but AddressesOf %v", l, groups, want)
	}
}

func TestGroupsMayBeOneRouter(t *testing.T) {
	for _, l := range slices.Concat(manyReplies(33), badReplies()) {
		checkGroups(t, l)
	}
	for count := range 5 {
		eachFew(count, 3, func(l []impl.Reply) { checkGroups(t, l) })
	}
}

func TestSurelyApart(t *testing.T) {
	l := replies(reply(3, 14, 50), reply(1, 13, 105), reply(5, 15, 106), reply(1, 10, 100), reply(3, 12, 40), reply(5, 11, 101), reply(7, 1, 0), reply(7, 2, 0), reply(9, 3, 2), reply(9, 4, 1))
	cases := []struct {
		a, b int
		want bool
	}{
		{1, 3, true}, {3, 5, true}, {1, 5, false},
		// an address and itself
		{1, 1, false}, {3, 3, false}, {5, 5, false}, {7, 7, true}, {9, 9, true}, {2, 2, false}, {-1, -1, false},
		// one that is not one router by itself
		{7, 1, true}, {7, 9, true}, {9, 5, true}, {7, 2, true}, {9, 2, true},
		// an address that no reply has
		{1, 2, false}, {3, 0, false}, {5, 20, false}, {0, 20, false}, {1, -1, false}, {3, 21, false}, {-1, 21, false}, {5, math.MinInt, false}, {3, math.MaxInt, false}, {7, 21, true},
	}
	for _, c := range cases {
		if impl.SurelyApart(l, c.a, c.b) != c.want || impl.SurelyApart(l, c.b, c.a) != c.want {
			t.Errorf("SurelyApart(%v, %d, %d) is not %t in both orders", l, c.a, c.b, c.want)
		}
	}
	for _, given := range [][]impl.Reply{nil, {}, from(1, 1), from(maxReplies, 1, 2)} {
		if impl.SurelyApart(given, 1, 2) || impl.SurelyApart(given, 2, 1) || impl.SurelyApart(given, 1, 1) {
			t.Errorf("1 and 2 are surely apart in %v", given)
		}
	}
	for _, given := range manyReplies(34) {
		for _, a := range []int{-1, 0, 5, 6, 12, 16, 18, 20, 21} {
			for _, b := range []int{-1, 0, 5, 6, 12, 16, 18, 20, 21} {
				if want := !agree(given, []int{a, b}); impl.SurelyApart(given, a, b) != want {
					t.Errorf("SurelyApart(%v, %d, %d) is not %t", given, a, b, want)
				}
			}
		}
	}
}

func TestSurelyApartOfNoReplies(t *testing.T) {
	given := badReplies()
	given = append(given, replies(reply(1, 1, 9), reply(2, 2, 8), reply(3, 2, 1)), replies(reply(1, 1, 9), reply(2, 2, 8), reply(21, 3, 1)), replies(reply(1, 1, 5), reply(1, 2, 5), reply(2, -1, 1)))
	for _, l := range given {
		for _, a := range []int{-1, 1, 2, 5, 6, 21} {
			for _, b := range []int{-1, 1, 2, 5, 6, 21} {
				if impl.SurelyApart(l, a, b) {
					t.Errorf("SurelyApart(%v, %d, %d) is true", l, a, b)
				}
			}
		}
	}
}

// roomyReplies returns the replies with spare room behind them, and what tells
// whether none of it has changed.
func roomyReplies(l []impl.Reply) ([]impl.Reply, func() bool) {
	whole := append(slices.Clone(l), slices.Repeat(replies(reply(99, 99, 99)), 16)...)
	before := slices.Clone(whole)
	return whole[:len(l)], func() bool { return slices.Equal(whole, before) }
}

// aliasFunctions call each function and write to what it returns.
var aliasFunctions = []struct {
	name string
	call func(l []impl.Reply, addresses []int)
}{
	{"AreReplies", func(l []impl.Reply, addresses []int) { impl.AreReplies(l) }},
	{"MayBeOne", func(l []impl.Reply, addresses []int) { impl.MayBeOne(l, addresses) }},
	{"AddressesOf", func(l []impl.Reply, addresses []int) { wipe(impl.AddressesOf(l)) }},
	{"GroupsOf", func(l []impl.Reply, addresses []int) { wipeRows(impl.GroupsOf(l)) }},
	{"SurelyApart", func(l []impl.Reply, addresses []int) { impl.SurelyApart(l, 20, 5) }},
}

func TestAliasFunctionsLeaveTheirArguments(t *testing.T) {
	random := rand.New(rand.NewPCG(35, 958))
	for _, given := range slices.Concat(manyReplies(35), badReplies()) {
		l, areRepliesUnchanged := roomyReplies(given)
		for _, choice := range [][]int{random.Perm(21), {20, 5, 0, 5, -1}} {
			addresses, areAddressesUnchanged := roomy(choice)
			for _, f := range aliasFunctions {
				f.call(l, addresses)
				if !areRepliesUnchanged() || !areAddressesUnchanged() {
					t.Fatalf("%s changes an argument: %v or %v", f.name, given, choice)
				}
			}
		}
	}
}

func TestGroupsShareNoMemory(t *testing.T) {
	for _, given := range append(manyReplies(36), from(maxReplies+1, 3)) {
		addresses, groups := impl.AddressesOf(given), impl.GroupsOf(given)
		wantedAddresses, wantedGroups := slices.Clone(addresses), cloneRows(groups)
		// What was passed in does not matter when the call has returned.
		l := slices.Clone(given)
		wipe(impl.AddressesOf(l))
		wipeRows(impl.GroupsOf(l))
		again, groupsAgain := impl.AddressesOf(l), impl.GroupsOf(l)
		for i := range l {
			l[i] = reply(-99, -99, -99)
		}
		if !slices.Equal(addresses, wantedAddresses) || !equalRows(groups, wantedGroups) || !slices.Equal(again, wantedAddresses) || !equalRows(groupsAgain, wantedGroups) {
			t.Fatalf("the results of %v share memory", given)
		}
		for i, g := range groups {
			wipe(g)
			if !equalRows(groups[i+1:], wantedGroups[i+1:]) {
				t.Fatalf("the groups %v of %v share memory", wantedGroups, given)
			}
		}
	}
}
