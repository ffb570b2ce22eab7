package probe_test

import (
	"iter"
	"math"
	"math/big"
	"slices"
	"testing"

	"corbel/api"
	"corbel/probe"
)

const greatest = math.MaxUint64

// good: all counts of groups that are good, written out.
var good = []int{1, 2, 4, 8, 16, 32, 64, 128, 256, 512, 1024}

// bad: counts at the ends, beside the good ones, between them, and behind the last one.
var bad = []int{
	math.MinInt, math.MinInt + 1, math.MinInt32, -1024, -8, -7, -4, -2, -1, 0,
	3, 5, 6, 7, 9, 10, 12, 15, 17, 24, 31, 33, 48, 63, 65, 96, 100, 127, 129, 192, 255, 257, 384, 511, 513, 768, 1000, 1023,
	1025, 1536, 2047, 2048, 2049, 4096, 1 << 16, 1 << 30, math.MaxInt32, 1 << 31, 1 << 32, 1<<32 + 1, 1<<32 + 1024, 1 << 62, math.MaxInt - 1, math.MaxInt,
}

// hashes: at both ends and close to them, where the sum passes the greatest uint64 at one step or another; close to where an int or its half ends; and some by a rule.
func hashes() []uint64 {
	all := []uint64{
		0, 1, 2, 3, 5, 7, 8, 511, 512, 513, 1023, 1024, 1025,
		math.MaxInt32, 1 << 31, math.MaxUint32, 1 << 32, math.MaxInt64 - 1, math.MaxInt64, 1 << 63, 1<<63 + 1,
		greatest, greatest - 1, greatest - 2, greatest - 3, greatest - 6, greatest - 1023, greatest - 1024,
		greatest - 523775, greatest - 523776, greatest - 523777,
	}
	x := uint64(88172645463325252)
	for range 40 {
		x ^= x << 13
		x ^= x >> 7
		x ^= x << 17
		all = append(all, x)
	}
	return all
}

// meant: the chapter's formula in numbers without an end.
func meant(h uint64, i, groups int) int {
	step := big.NewInt(int64(i))
	sum := new(big.Int).Add(step, big.NewInt(1))
	sum.Mul(sum, step)
	sum.Div(sum, big.NewInt(2))
	sum.Add(sum, new(big.Int).SetUint64(h))
	return int(sum.Mod(sum, big.NewInt(int64(groups))).Int64())
}

// told: what an iterator tells; at most some more than there may be, so that one without an end fails.
func told(t *testing.T, seq iter.Seq[int]) []int {
	t.Helper()
	if seq == nil {
		t.Fatal("no iterator")
	}
	var all []int
	for g := range seq {
		all = append(all, g)
		if len(all) > 2*api.MaxGroups {
			t.Fatal("it does not end")
		}
	}
	return all
}

func TestExamples(t *testing.T) {
	if got := told(t, probe.Seq(5, 4)); !slices.Equal(got, []int{1, 2, 0, 3}) {
		t.Errorf("Seq(5, 4): %d", got)
	}
	if got := probe.Need(8); got != 2 {
		t.Errorf("Need(8): %d", got)
	}
}

func TestGood(t *testing.T) {
	if good[len(good)-1] != api.MaxGroups || !probe.Good(api.MaxGroups) {
		t.Errorf("MaxGroups, %d, is not good", api.MaxGroups)
	}
	for groups := -3000; groups <= 5000; groups++ {
		if got, want := probe.Good(groups), slices.Contains(good, groups); got != want {
			t.Errorf("Good(%d): %t", groups, got)
		}
	}
	for _, groups := range bad {
		if probe.Good(groups) {
			t.Errorf("Good(%d)", groups)
		}
	}
	for bit := range 64 { // each power of two, and what it is below 0
		groups := int(uint64(1) << bit)
		if got, want := probe.Good(groups), bit <= 10; got != want {
			t.Errorf("Good(%d): %t", groups, got)
		}
		if probe.Good(-groups) {
			t.Errorf("Good(%d)", -groups)
		}
	}
}

func TestAt(t *testing.T) {
	for _, groups := range good {
		for _, h := range hashes() {
			for i := range groups {
				if got, want := probe.At(h, i, groups), meant(h, i, groups); got != want {
					t.Fatalf("At(%d, %d, %d): %d, want %d", h, i, groups, got, want)
				}
			}
		}
	}
}

// TestAtWrittenOut: first steps, last steps, and sums that pass the greatest uint64.
func TestAtWrittenOut(t *testing.T) {
	for _, c := range []struct {
		h               uint64
		i, groups, want int
	}{
		{0, 0, 1, 0},
		{greatest, 0, 1, 0},
		{0, 1, 2, 1},
		{1, 1, 2, 0},
		{5, 0, 4, 1},
		{5, 1, 4, 2},
		{5, 2, 4, 0},
		{5, 3, 4, 3},
		{0, 7, 8, 4},
		{greatest, 0, 8, 7},
		{greatest, 1, 8, 0},
		{greatest, 2, 8, 2},
		{greatest - 1, 1, 8, 7},
		{greatest - 1, 2, 8, 1},
		{0, 1023, 1024, 512},
		{511, 1023, 1024, 1023},
		{512, 1023, 1024, 0},
		{greatest, 0, 1024, 1023},
		{greatest, 1023, 1024, 511},
	} {
		if got := probe.At(c.h, c.i, c.groups); got != c.want {
			t.Errorf("At(%d, %d, %d): %d, want %d", c.h, c.i, c.groups, got, c.want)
		}
	}
}

// TestAtNoSuchStep: steps beside those that there are, where the formula would mostly tell another group than 0.
func TestAtNoSuchStep(t *testing.T) {
	for _, groups := range good {
		for _, i := range []int{
			math.MinInt, math.MinInt + 1, math.MinInt32, -groups - 1, -groups, -3, -2, -1,
			groups, groups + 1, groups + 2, 2*groups - 1, 2 * groups, 1 << 16, math.MaxInt32, 1 << 32, math.MaxInt - 1, math.MaxInt,
		} {
			for _, h := range hashes() {
				if got := probe.At(h, i, groups); got != 0 {
					t.Errorf("At(%d, %d, %d): %d", h, i, groups, got)
				}
			}
		}
	}
}

func TestAtNoSuchCount(t *testing.T) {
	for _, groups := range bad {
		for _, i := range []int{math.MinInt, -1, 0, 1, 2, 5, 1023, 1024, groups - 1, groups, math.MaxInt} {
			for _, h := range hashes() {
				if got := probe.At(h, i, groups); got != 0 {
					t.Errorf("At(%d, %d, %d): %d", h, i, groups, got)
				}
			}
		}
	}
}

func TestSeq(t *testing.T) {
	for _, groups := range good {
		for _, h := range hashes() {
			var want []int
			for i := range groups {
				want = append(want, meant(h, i, groups))
			}
			if got := told(t, probe.Seq(h, groups)); !slices.Equal(got, want) {
				t.Fatalf("Seq(%d, %d): %d, want %d", h, groups, got, want)
			}
		}
	}
}

func TestSeqWrittenOut(t *testing.T) {
	for _, c := range []struct {
		h      uint64
		groups int
		want   []int
	}{
		{0, 1, []int{0}},
		{greatest, 1, []int{0}},
		{0, 2, []int{0, 1}},
		{greatest, 2, []int{1, 0}},
		{0, 4, []int{0, 1, 3, 2}},
		{0, 8, []int{0, 1, 3, 6, 2, 7, 5, 4}},
		{greatest, 8, []int{7, 0, 2, 5, 1, 6, 4, 3}},
		{greatest - 2, 8, []int{5, 6, 0, 3, 7, 4, 2, 1}},
	} {
		if got := told(t, probe.Seq(c.h, c.groups)); !slices.Equal(got, c.want) {
			t.Errorf("Seq(%d, %d): %d, want %d", c.h, c.groups, got, c.want)
		}
	}
}

func TestSeqNoSuchCount(t *testing.T) {
	for _, groups := range bad {
		for _, h := range hashes() {
			if got := told(t, probe.Seq(h, groups)); len(got) != 0 {
				t.Errorf("Seq(%d, %d): %d", h, groups, got)
			}
		}
	}
}

// TestSeqTellsEachGroupOnce: for every good count, from every first group.
func TestSeqTellsEachGroupOnce(t *testing.T) {
	for _, groups := range good {
		from := hashes()
		for first := range groups {
			from = append(from, uint64(first), greatest-uint64(first))
		}
		for _, h := range from {
			times := make([]int, groups)
			for _, g := range told(t, probe.Seq(h, groups)) {
				if g < 0 || g >= groups {
					t.Fatalf("Seq(%d, %d): no group %d", h, groups, g)
				}
				times[g]++
			}
			for g, n := range times {
				if n != 1 {
					t.Fatalf("Seq(%d, %d): group %d %d times", h, groups, g, n)
				}
			}
		}
	}
}

// TestSeqLeftEarly: behind each of its groups, then gone over again from the beginning.
func TestSeqLeftEarly(t *testing.T) {
	for _, groups := range []int{1, 2, 4, 32, api.MaxGroups} {
		seq := probe.Seq(greatest, groups)
		whole := told(t, seq)
		for n := 1; n <= groups; n++ {
			var begun []int
			for g := range seq {
				begun = append(begun, g)
				if len(begun) == n {
					break
				}
			}
			if !slices.Equal(begun, whole[:n]) {
				t.Fatalf("%d of %d groups: %d, want %d", n, groups, begun, whole[:n])
			}
		}
		if again := told(t, seq); !slices.Equal(again, whole) {
			t.Errorf("%d groups, again: %d, want %d", groups, again, whole)
		}
	}
}

// TestSeqIsNotAskedOn: who says no is told nothing more.
func TestSeqIsNotAskedOn(t *testing.T) {
	for _, groups := range good {
		for last := 1; last <= min(groups, 9); last++ {
			asked := 0
			probe.Seq(3, groups)(func(int) bool {
				asked++
				return asked < last
			})
			if asked != last {
				t.Errorf("%d groups, left at %d: asked %d times", groups, last, asked)
			}
		}
	}
}

// TestSeqNested: one iterator within itself, and two beside each other.
func TestSeqNested(t *testing.T) {
	seq, other := probe.Seq(5, 4), probe.Seq(0, 2)
	var got []int
	for a := range seq {
		for b := range seq {
			if b == 0 {
				break
			}
			for c := range other {
				got = append(got, 100*a+10*b+c)
			}
		}
	}
	want := []int{110, 111, 120, 121, 210, 211, 220, 221, 10, 11, 20, 21, 310, 311, 320, 321}
	if !slices.Equal(got, want) {
		t.Errorf("%d, want %d", got, want)
	}
}

// fewest: the least good count with so much room, looked for from the greatest one down.
func fewest(n int) int {
	least := 0
	for i := len(good) - 1; i >= 0; i-- {
		if good[i]*7 >= n {
			least = good[i]
		}
	}
	return least
}

func TestNeed(t *testing.T) {
	for n := -100; n <= 7*api.MaxGroups+2000; n++ {
		if got, want := probe.Need(n), fewest(n); got != want {
			t.Errorf("Need(%d): %d, want %d", n, got, want)
		}
	}
}

func TestNeedEdges(t *testing.T) {
	for _, c := range []struct{ n, want int }{
		{math.MinInt, 1}, {math.MinInt + 1, 1}, {math.MinInt32, 1}, {-8, 1}, {-7, 1}, {-1, 1}, {0, 1}, {1, 1}, {6, 1},
		{7, 1}, {8, 2}, {14, 2}, {15, 4}, {21, 4}, {22, 4}, {28, 4}, {29, 8}, {56, 8}, {57, 16}, {112, 16}, {113, 32},
		{224, 32}, {225, 64}, {448, 64}, {449, 128}, {896, 128}, {897, 256}, {1792, 256}, {1793, 512}, {api.MaxMap, 512},
		{3584, 512}, {3585, 1024}, {7161, 1024}, {7 * api.MaxGroups, 1024}, {7*api.MaxGroups + 1, 0}, {8 * api.MaxGroups, 0},
		{14 * api.MaxGroups, 0}, {math.MaxInt32, 0}, {1 << 32, 0}, {1<<32 + 1, 0}, {math.MaxInt / 7, 0}, {math.MaxInt/7 + 1, 0}, {math.MaxInt - 1, 0}, {math.MaxInt, 0},
	} {
		if got := probe.Need(c.n); got != c.want {
			t.Errorf("Need(%d): %d, want %d", c.n, got, c.want)
		}
	}
}
