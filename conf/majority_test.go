package conf_test

import (
	"math"
	"math/bits"
	"math/rand"
	"slices"
	"testing"

	"corbel/api"
	"corbel/conf"
)

func TestMajority(t *testing.T) {
	three := api.Conf{Voters: []int{1, 3, 4}, Learners: []int{2, 5, 6}}
	four := api.Conf{Voters: []int{1, 2, 3, 4}}
	for _, x := range []struct {
		c    api.Conf
		l    []int
		want bool
	}{
		{three, nil, false},
		{three, []int{}, false},
		{three, []int{1}, false},
		{three, []int{1, 3}, true},
		{three, []int{4, 3}, true},
		{three, []int{1, 3, 4}, true},
		// learners and others do not count
		{three, []int{1, 2, 5, 6}, false},
		{three, []int{1, 7, 8, 9, 0, -1}, false},
		{three, []int{9, 4, 2, 1}, true},
		// one that is there twice counts once
		{three, []int{1, 1}, false},
		{three, []int{3, 3, 3, 3}, false},
		{three, []int{3, 1, 3}, true},
		// half is not more than half
		{four, []int{1, 2}, false},
		{four, []int{4, 2, 4, 2}, false},
		{four, []int{4, 2, 1}, true},
		{conf.Begin(1), nil, false},
		{conf.Begin(1), []int{1}, true},
		{conf.Begin(1), []int{2}, false},
		{conf.Begin(2), []int{2}, false},
		{conf.Begin(2), []int{2, 1}, true},
		{conf.Begin(9), []int{9, 8, 7, 6}, false},
		{conf.Begin(9), []int{9, 8, 7, 6, 5}, true},
		// what lies behind the end is not there
		{three, []int{1, 3}[:1], false},
		{three, []int{math.MaxInt, 1, math.MinInt, 3}, true},
		// without voters
		{api.Conf{}, nil, false},
		{api.Conf{}, []int{1}, false},
		{api.Conf{Voters: []int{}, Learners: []int{1}}, []int{1}, false},
		// of what is not good, too
		{api.Conf{Voters: []int{3, 1, 2}}, []int{2, 3}, true},
		{api.Conf{Voters: []int{3, 1, 2}}, []int{2}, false},
		{api.Conf{Voters: []int{1, 1, 2}}, []int{1}, false},
		{api.Conf{Voters: []int{1, 1, 2}}, []int{1, 2}, true},
		{api.Conf{Voters: []int{0, -1, 10}}, []int{10, -1}, true},
		{api.Conf{Voters: []int{math.MinInt, math.MaxInt}}, []int{math.MaxInt, math.MinInt}, true},
		{api.Conf{Voters: []int{1}, Learners: []int{1}}, []int{1}, true},
	} {
		is(t, conf.Majority(x.c, x.l), x.want, "Majority ", x.c, x.l)
	}
}

// TestAllMajorities: of all voters there are, with all sets of nodes; learners change nothing.
func TestAllMajorities(t *testing.T) {
	nodes := []int{1, 2, 3, 4, 5, 6, 7, 8, 9}
	for set := range 1 << len(nodes) {
		rest := some(nodes, ^set)
		c := api.Conf{Voters: some(nodes, set)}
		with := api.Conf{Voters: some(nodes, set), Learners: rest}
		for said := range 1 << len(nodes) {
			l := some(nodes, said)
			want := 2*bits.OnesCount(uint(set&said)) > bits.OnesCount(uint(set))
			is(t, conf.Majority(c, l), want, "Majority ", c, l)
			is(t, conf.Majority(with, l), want, "Majority ", with, l)
		}
	}
}

func TestDrawn(t *testing.T) {
	r := rand.New(rand.NewSource(15))
	met := map[bool]int{}
	for range 40000 {
		c := api.Conf{Voters: drawn(r, 9), Learners: drawn(r, 5)}
		l := drawn(r, 16)
		want := plainMajority(c, l)
		met[want]++
		is(t, conf.Majority(c, l), want, "Majority ", c, l)
		isList(t, conf.Members(c), plainMembers(c), "Members ", c)
		node := r.Intn(12) - 1
		is(t, conf.Has(l, node), once(l)[node] == 1, "Has ", l, node)
	}
	if met[true] < 4000 || met[false] < 4000 {
		t.Fatal("too few of one kind:", met)
	}
}

// least: the majorities of which no voter could be missing, by the package's word alone, as bits.
func least(c api.Conf) []int {
	var l []int
	for set := range 1 << len(c.Voters) {
		if !conf.Majority(c, some(c.Voters, set)) {
			continue
		}
		spare := false
		for i := range c.Voters {
			if set>>i&1 == 1 && conf.Majority(c, some(c.Voters, set&^(1<<i))) {
				spare = true
			}
		}
		if !spare {
			l = append(l, bitsOf(some(c.Voters, set)))
		}
	}
	return l
}

func bitsOf(nodes []int) int {
	set := 0
	for _, n := range nodes {
		set |= 1 << n
	}
	return set
}

// TestMajoritiesMeet: P15.3: a majority of members and one of a change of them have a voter in common.
func TestMajoritiesMeet(t *testing.T) {
	of := map[int][]int{}
	for _, c := range allConfs() {
		if of[bitsOf(c.Voters)] == nil {
			of[bitsOf(c.Voters)] = least(c)
		}
	}
	changes := 0
	for _, c := range allConfs() {
		if len(c.Learners) > 1 { // others than the one who is changed make no majorities
			continue
		}
		for kind := conf.AddVoter; kind <= conf.Remove; kind++ {
			for node := 1; node <= 9; node++ {
				if next, err := conf.Change(c, kind, node); err == api.OK {
					changes++
					meet(t, c, next, of)
				}
			}
		}
	}
	if changes < 10000 {
		t.Fatal("too few changes:", changes)
	}
}

// meet: do all majorities of the one meet all of the other?
func meet(t *testing.T, a, b api.Conf, of map[int][]int) {
	t.Helper()
	votes, next := of[bitsOf(a.Voters)], of[bitsOf(b.Voters)]
	if len(votes) == 0 || len(next) == 0 {
		t.Fatal(a, b, "have no majorities")
	}
	for _, x := range votes {
		for _, y := range next {
			if x&y == 0 {
				t.Fatal(a, b, "have majorities that do not meet")
			}
		}
	}
}

// TestLong: long lists are done in good time.
func TestLong(t *testing.T) {
	const n = 1 << 18
	down, odd := make([]int, n), make([]int, n/2)
	for i := range down {
		down[i] = n - i
	}
	for i := range odd {
		odd[i] = 2*i + 1
	}
	c := api.Conf{Voters: down, Learners: odd}
	is(t, conf.Majority(c, odd), false, "half")
	is(t, conf.Majority(c, append(odd, 1, 1, 1)), false, "half, some of it twice")
	is(t, conf.Majority(c, append(odd, 2)), true, "one more than half")
	members := conf.Members(c)
	is(t, len(members), n, "members")
	is(t, slices.IsSorted(members), true, "members")
	is(t, conf.Has(down, 0), false, "none")
	is(t, conf.Has(down, 1), true, "the last one")
	_, err := conf.Change(c, conf.AddVoter, 1)
	is(t, err, api.ErrArg, "Change")
}
