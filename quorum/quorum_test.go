package quorum_test

import (
	"fmt"
	"math"
	"math/rand"
	"slices"
	"testing"

	"corbel/quorum"
)

func TestMajority(t *testing.T) {
	for n, want := range []int{0, 1, 2, 2, 3, 3, 4, 4, 5, 5, 6} {
		is(t, fmt.Sprint("Majority ", n), quorum.Majority(n), want)
	}
	for _, n := range ends {
		is(t, fmt.Sprint("Majority ", n), quorum.Majority(n), plainMajority(n))
	}
	is(t, "Majority below 1", quorum.Majority(-3), 0)
	is(t, "Majority of the most", quorum.Majority(math.MaxInt), 1<<62)
}

func TestCommit(t *testing.T) {
	for _, c := range []struct {
		l    []int
		want int
	}{
		{nil, 0},
		{[]int{}, 0},
		{[]int{7}, 7},
		{[]int{-7}, -7},
		{[]int{5, 2, 9}, 5},
		{[]int{5, 2}, 2},
		{[]int{2, 5}, 2},
		{[]int{4, 4, 4}, 4},
		{[]int{9, 9, 1}, 9},
		{[]int{1, 1, 9}, 1},
		{[]int{9, 8, 7, 6}, 7},
		{[]int{0, 9, 9, 0}, 0},
		{[]int{1, 2, 3, 4, 5}, 3},
		{[]int{-5, -2, -9}, -5},
		{[]int{math.MaxInt, math.MinInt, 0}, 0},
		{[]int{math.MaxInt, math.MinInt}, math.MinInt},
		{[]int{math.MaxInt, math.MaxInt, math.MinInt}, math.MaxInt},
	} {
		is(t, fmt.Sprint("Commit ", c.l), quorum.Commit(c.l), c.want)
	}
}

func TestWon(t *testing.T) {
	for _, c := range []struct{ yes, no, n, want int }{
		{1, 1, 3, 0}, {2, 0, 3, 1}, {0, 2, 3, 2}, {1, 2, 3, 2}, {2, 1, 3, 1}, {0, 1, 3, 0}, {0, 0, 3, 0},
		{0, 0, 1, 0}, {1, 0, 1, 1}, {0, 1, 1, 2},
		{1, 0, 2, 0}, {2, 0, 2, 1}, {0, 1, 2, 2}, {1, 1, 2, 2},
		{2, 1, 4, 0}, {2, 2, 4, 2}, {3, 1, 4, 1}, {3, 3, 4, 1},
		{2, 2, 5, 0}, {2, 3, 5, 2}, {3, 2, 5, 1},
		// who says yes is asked ahead of who says no
		{3, 3, 3, 1}, {2, 2, 3, 1}, {1, 1, 1, 1},
		// no members
		{0, 0, 0, 2}, {1, 0, 0, 2}, {1, 1, -1, 2}, {9, 0, math.MinInt, 2}, {math.MaxInt, math.MinInt, -3, 2},
		// numbers below 0 count as 0, above n as n
		{-1, -1, 3, 0}, {-9, 2, 3, 2}, {9, -9, 3, 1}, {9, 9, 3, 1}, {0, 9, 3, 2}, {-9, 9, 3, 2}, {1, math.MinInt, 3, 0}, {1, math.MaxInt, 3, 2},
		{math.MinInt, math.MinInt, math.MaxInt, 0}, {math.MaxInt, math.MinInt, math.MaxInt, 1}, {0, math.MaxInt, math.MaxInt, 2},
		{0, 1<<62 - 1, math.MaxInt, 0}, {0, 1 << 62, math.MaxInt, 2}, {1 << 62, 0, math.MaxInt, 1}, {1<<62 - 1, 0, math.MaxInt, 0},
	} {
		is(t, fmt.Sprint("Won ", c.yes, c.no, c.n), quorum.Won(c.yes, c.no, c.n), c.want)
	}
}

func TestMeet(t *testing.T) {
	for _, c := range []struct {
		a, b, of []int
		want     bool
	}{
		{nil, nil, nil, false},
		{[]int{1}, []int{1}, nil, false},
		{nil, []int{1}, []int{1}, false},
		{[]int{1}, []int{}, []int{1}, false},
		{[]int{1}, []int{1}, []int{1}, true},
		{[]int{1, 2}, []int{2, 3}, []int{1, 2, 3}, true},
		{[]int{1, 2}, []int{3}, []int{1, 2, 3}, false},
		// both have it, but it is no member
		{[]int{4, 1}, []int{4, 3}, []int{1, 2, 3}, false},
		// each has a member, but not the same one
		{[]int{1, 4}, []int{3, 4}, []int{1, 3}, false},
		// in no order, and more than once
		{[]int{9, 2, 2, 5}, []int{7, 5, 1, 7}, []int{8, 5, 8}, true},
		{[]int{3, 1, 2}, []int{6, 5, 1}, []int{3, 2, 1}, true},
		{[]int{5, 5}, []int{4, 4}, []int{5, 4, 5, 4}, false},
		{[]int{0}, []int{0}, []int{0}, true},
		{[]int{-1, math.MinInt}, []int{math.MinInt, 1}, []int{0, math.MinInt}, true},
		{[]int{math.MaxInt, -1}, []int{math.MinInt, math.MaxInt}, []int{math.MaxInt}, true},
	} {
		is(t, fmt.Sprint("Meet ", c.a, c.b, c.of), quorum.Meet(c.a, c.b, c.of), c.want)
	}
}

// TestEnds: R1, R6: numbers at their ends, all with all.
func TestEnds(t *testing.T) {
	for _, a := range ends {
		for _, b := range ends {
			for _, c := range ends {
				is(t, fmt.Sprint("Won ", a, b, c), quorum.Won(a, b, c), plainWon(a, b, c))
				l := []int{a, b, c}
				is(t, fmt.Sprint("Commit ", l), quorum.Commit(l), plainCommit(l))
				is(t, fmt.Sprint("Commit ", l[:2]), quorum.Commit(l[:2]), plainCommit(l[:2]))
				is(t, fmt.Sprint("Meet ", l), quorum.Meet(l[:1], l[1:2], l[2:]), a == b && b == c)
			}
		}
	}
}

// TestVotes: all votes of up to ten members, and some that can't be.
func TestVotes(t *testing.T) {
	for n := -2; n <= 10; n++ {
		for yes := -2; yes <= 12; yes++ {
			for no := -2; no <= 12; no++ {
				is(t, fmt.Sprint("Won ", yes, no, n), quorum.Won(yes, no, n), plainWon(yes, no, n))
			}
		}
	}
}

// TestWonAndMore: what is won stays won with another yes, and what is lost stays lost with another no; when all have said something, it is one of both.
func TestWonAndMore(t *testing.T) {
	for n := 1; n <= 9; n++ {
		for yes := range n + 1 {
			for no := range n + 1 - yes {
				now := quorum.Won(yes, no, n)
				is(t, "as all say", now == 0, yes < n/2+1 && n-no >= n/2+1)
				if yes+no == n {
					is(t, "all have said it", now != 0, true)
					continue
				}
				if now != 0 {
					is(t, "another yes", quorum.Won(yes+1, no, n), now)
					is(t, "another no", quorum.Won(yes, no+1, n), now)
				}
			}
		}
	}
}

func TestDrawn(t *testing.T) {
	r := rand.New(rand.NewSource(14))
	met := map[bool]int{}
	for range 20000 {
		most := 1 + r.Intn(24)
		a, b, of := drawn(r, most), drawn(r, most), drawn(r, most)
		is(t, fmt.Sprint("Commit ", a), quorum.Commit(a), plainCommit(a))
		meet := plainMeet(a, b, of)
		met[meet]++
		is(t, fmt.Sprint("Meet ", a, b, of), quorum.Meet(a, b, of), meet)
	}
	if met[true] < 2000 || met[false] < 2000 {
		t.Fatal("too few of one kind:", met)
	}
}

// TestMajoritiesMeet: P14.2: two majorities of one list have a member in common; two halves of it need not.
func TestMajoritiesMeet(t *testing.T) {
	members := []int{7, 3, 9, 1, 5, 8, 2, 6}
	for n := range len(members) + 1 {
		of := members[:n]
		for one := range 1 << n {
			for two := range 1 << n {
				a, b := some(of, one), some(of, two)
				meet := quorum.Meet(a, b, of)
				is(t, fmt.Sprint("Meet ", a, b, of), meet, one&two != 0)
				if m := quorum.Majority(n); n > 0 && len(a) >= m && len(b) >= m && !meet {
					t.Fatal(a, b, "do not meet")
				}
			}
		}
	}
}

// TestCommitIsOne: P14.2: it is one of the list, at most half of which are above it; a majority is at least that, and none is greater of which that holds.
func TestCommitIsOne(t *testing.T) {
	r := rand.New(rand.NewSource(142))
	for range 20000 {
		l := append(drawn(r, 1+r.Intn(12)), r.Intn(9))
		c := quorum.Commit(l)
		is(t, "one of the list", slices.Contains(l, c), true)
		is(t, "a majority is at least that", atLeast(l, c) >= quorum.Majority(len(l)), true)
		if c < math.MaxInt {
			is(t, "at most half are above", atLeast(l, c+1) <= len(l)/2, true)
			is(t, "no majority is above", atLeast(l, c+1) < quorum.Majority(len(l)), true)
		}
		slices.Sort(l)
		is(t, "in another order", quorum.Commit(l), c)
		slices.Reverse(l)
		is(t, "in another order", quorum.Commit(l), c)
	}
}

// TestNothingIsChanged: R3: the lists, and the room behind them, are as they were.
func TestNothingIsChanged(t *testing.T) {
	roomy := func() []int { return []int{5, 2, 9, 2, 7, 3, 1}[:5] }
	untouched := func(l []int) {
		t.Helper()
		is(t, "what was handed in", fmt.Sprint(l[:7]), "[5 2 9 2 7 3 1]")
	}
	a, b, of := roomy(), roomy(), roomy()
	is(t, "Commit", quorum.Commit(a), 5)
	untouched(a)
	is(t, "Meet", quorum.Meet(a, b, of), true)
	is(t, "Meet", quorum.Meet(a, b, []int{0, 3, 1}), false)
	is(t, "Meet", quorum.Meet(a, []int{3, 1}, of), false)
	is(t, "Meet", quorum.Meet(a, a, a), true)
	untouched(a)
	untouched(b)
	untouched(of)
}

// TestLong: long lists are done in good time.
func TestLong(t *testing.T) {
	const n = 1 << 18
	even, odd, all := make([]int, n), make([]int, n), make([]int, 2*n)
	for i := range n {
		even[i], odd[i] = 2*(n-1-i), 2*(n-1-i)+1
	}
	for i := range all {
		all[i] = i
	}
	is(t, "Meet", quorum.Meet(even, odd, all), false)
	is(t, "Meet", quorum.Meet(append(even, 1), odd, all), true)
	is(t, "Commit", quorum.Commit(all), n-1)
	is(t, "Commit", quorum.Commit(even), n-2)
}
