package quorum_test

import (
	"math"
	"math/big"
	"math/rand"
	"testing"
)

// What chapter 14 says, told once more: each member and each number looked at one by one, and sums without an end.

// ends: numbers at their ends, and close to the edges that the chapter names.
var ends = []int{math.MinInt, math.MinInt + 1, math.MinInt32, -10, -2, -1, 0, 1, 2, 3, 4, 5, 9, 10, math.MaxInt32, math.MaxInt/2 - 1, math.MaxInt / 2, math.MaxInt/2 + 1, math.MaxInt - 1, math.MaxInt}

// plainMajority: the least count that is more than half of n.
func plainMajority(n int) int {
	if n < 1 {
		return 0
	}
	half := new(big.Int).Div(big.NewInt(int64(n)), big.NewInt(2))
	return int(half.Add(half, big.NewInt(1)).Int64())
}

// atLeast: how many of the list are at least x?
func atLeast(l []int, x int) int {
	count := 0
	for _, y := range l {
		if y >= x {
			count++
		}
	}
	return count
}

func plainCommit(l []int) int {
	greatest, any := 0, false
	for _, x := range l {
		if atLeast(l, x) >= plainMajority(len(l)) && (!any || x > greatest) {
			greatest, any = x, true
		}
	}
	return greatest
}

// counted: numbers below 0 count as 0, above n as n.
func counted(x, n int) int {
	if x < 0 {
		return 0
	}
	if x > n {
		return n
	}
	return x
}

func plainWon(yes, no, n int) int {
	if n < 1 {
		return 2
	}
	most := new(big.Int).Sub(big.NewInt(int64(n)), big.NewInt(int64(counted(no, n))))
	if counted(yes, n) >= plainMajority(n) {
		return 1
	}
	if most.Cmp(big.NewInt(int64(plainMajority(n)))) < 0 {
		return 2
	}
	return 0
}

func has(l []int, x int) bool {
	for _, y := range l {
		if x == y {
			return true
		}
	}
	return false
}

func plainMeet(a, b, of []int) bool {
	for _, x := range of {
		if has(a, x) && has(b, x) {
			return true
		}
	}
	return false
}

// drawn: a list of less than so many numbers, some of them more than once, in no order; now and then at the ends.
func drawn(r *rand.Rand, most int) []int {
	l := make([]int, r.Intn(most))
	for i := range l {
		l[i] = r.Intn(most) - most/4
		if r.Intn(12) == 0 {
			l[i] = ends[r.Intn(len(ends))]
		}
	}
	return l
}

// some: the members of l of which the bits of set are there.
func some(l []int, set int) []int {
	var out []int
	for i, x := range l {
		if set>>i&1 == 1 {
			out = append(out, x)
		}
	}
	return out
}

func is[T comparable](t *testing.T, what string, got, want T) {
	t.Helper()
	if got != want {
		t.Fatalf("%s: %v, want %v", what, got, want)
	}
}
