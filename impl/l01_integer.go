package impl

import "strconv"

const MaxValue = 1000000000000

// A kind says which one of several integers is wanted. Its method does
// nothing: it keeps other types from being taken for kinds.
type kind interface {
	isKind()
}

type least struct{}

type greatest struct{}

func (least) isKind() {}

func (greatest) isKind() {}

func FormatInt(n int) string {
	return strconv.Itoa(n)
}

// ParseInt compares the text with that of the number it found, because Atoi
// also reads signs and leading zeros.
func ParseInt(s string) (int, bool) {
	n, err := strconv.Atoi(s)
	if err != nil || !InRange(n, 0, MaxValue) || FormatInt(n) != s {
		return 0, false
	}
	return n, true
}

func Min(a int, b int) int {
	return choose(least{}, a, b)
}

func Max(a int, b int) int {
	return choose(greatest{}, a, b)
}

// choose takes the first integer apart from the others, so that there is
// always one to return.
func choose(k kind, first int, others ...int) int {
	chosen := first
	for _, n := range others {
		if isWanted(k, n, chosen) {
			chosen = n
		}
	}
	return chosen
}

func isWanted(k kind, n int, chosen int) bool {
	switch k.(type) {
	case least:
		return n < chosen
	case greatest:
		return n > chosen
	}
	return false
}

func CeilDiv(a int, b int) int {
	if !InRange(a, 0, MaxValue) || !InRange(b, 1, MaxValue) {
		return 0
	}
	return (a + b - 1) / b
}

func Mod(p int, q int) int {
	if !InRange(q, 1, MaxValue) {
		return 0
	}
	r := p % q
	if r < 0 {
		// Go's remainder has the sign of p.
		r += q
	}
	return r
}

func InRange(n int, low int, high int) bool {
	return low <= n && n <= high
}
