package conf_test

import (
	"fmt"
	"math"
	"math/rand"
	"slices"
	"testing"

	"corbel/api"
)

// What chapter 15 says, told once more: each node from 1 to 9 has a part, and what is listed is looked at one by one.

// ends: numbers at their ends, and beside the edges of kinds and nodes.
var ends = []int{math.MinInt, math.MinInt + 1, math.MinInt32, -9, -1, 0, 1, 2, 3, 4, 5, 8, 9, 10, 256 + 1, 1<<32 + 1, math.MaxInt - 1, math.MaxInt}

// parts: what each node is: 0 no member, 1 a voter, 2 a learner.
type parts [api.MaxNodes + 1]int

func partsOf(c api.Conf) parts {
	var p parts
	for _, n := range c.Voters {
		p[n] = 1
	}
	for _, n := range c.Learners {
		p[n] = 2
	}
	return p
}

// nodes: those that are that, from the least on.
func (p parts) nodes(part int) []int {
	var l []int
	for n := 1; n < len(p); n++ {
		if p[n] == part {
			l = append(l, n)
		}
	}
	return l
}

func (p parts) conf() api.Conf { return api.Conf{Voters: p.nodes(1), Learners: p.nodes(2)} }

// plainChange: of members that are good.
func plainChange(c api.Conf, kind, node int) (api.Conf, api.Errno) {
	if kind < 1 || kind > 4 || node < 1 || node > 9 {
		return api.Conf{}, api.ErrArg
	}
	p := partsOf(c)
	was := p[node]
	becomes, err := [][]int{{1, -1, -1}, {2, -1, -1}, {-1, -1, 1}, {-1, 0, 0}}[kind-1][was], api.OK
	if becomes == -1 {
		err = []api.Errno{api.ErrExists, api.ErrExists, api.ErrNone, api.ErrNone}[kind-1]
	}
	if kind == 4 && was == 1 && len(p.nodes(1)) == 1 {
		err = api.ErrArg
	}
	if err != api.OK {
		return api.Conf{}, err
	}
	p[node] = becomes
	return p.conf(), api.OK
}

// once: each of them once, in no order.
func once(l []int) map[int]int {
	m := map[int]int{}
	for _, x := range l {
		m[x] = 1
	}
	return m
}

func plainMajority(c api.Conf, l []int) bool {
	voters, there := once(c.Voters), once(l)
	yes, no := 0, 0
	for v := range voters {
		yes += there[v]
		no += 1 - there[v]
	}
	return yes > no
}

func plainMembers(c api.Conf) []int {
	var l []int
	for n := range once(append(slices.Clone(c.Voters), c.Learners...)) {
		l = append(l, n)
	}
	slices.Sort(l)
	return l
}

// allConfs: each that is good.
func allConfs() []api.Conf {
	var l []api.Conf
	for i := range 19683 {
		var p parts
		for n := 1; n < len(p); n++ {
			p[n] = i % 3
			i /= 3
		}
		if len(p.nodes(1)) > 0 {
			l = append(l, p.conf())
		}
	}
	return l
}

// badConfs: some that are not good.
func badConfs() []api.Conf {
	return []api.Conf{
		{},
		{Voters: []int{}, Learners: []int{}},
		{Learners: []int{1, 2}},
		{Voters: []int{2, 1}},
		{Voters: []int{1, 1}},
		{Voters: []int{1, 3, 2}},
		{Voters: []int{0, 1}},
		{Voters: []int{-1, 1}},
		{Voters: []int{1, 10}},
		{Voters: []int{math.MinInt, math.MaxInt}},
		{Voters: []int{1}, Learners: []int{3, 2}},
		{Voters: []int{1}, Learners: []int{2, 2}},
		{Voters: []int{1}, Learners: []int{1}},
		{Voters: []int{1, 2}, Learners: []int{2, 3}},
		{Voters: []int{1}, Learners: []int{0}},
		{Voters: []int{1}, Learners: []int{10}},
		{Voters: []int{1, 2, 3, 4, 5, 6, 7, 8, 9, 9}},
	}
}

// drawn: at most so many numbers about the nodes', some of them more than once, in no order; now and then at the ends.
func drawn(r *rand.Rand, most int) []int {
	l := make([]int, r.Intn(most+1))
	for i := range l {
		l[i] = r.Intn(12) - 1
		if r.Intn(12) == 0 {
			l[i] = ends[r.Intn(len(ends))]
		}
	}
	return l
}

// some: the numbers of l of which the bits of set are there.
func some(l []int, set int) []int {
	var out []int
	for i, x := range l {
		if set>>i&1 == 1 {
			out = append(out, x)
		}
	}
	return out
}

func sameConf(a, b api.Conf) bool {
	return slices.Equal(a.Voters, b.Voters) && slices.Equal(a.Learners, b.Learners)
}

func is[T comparable](t *testing.T, got, want T, of ...any) {
	t.Helper()
	if got != want {
		t.Fatalf("%s: %v, want %v", fmt.Sprint(of...), got, want)
	}
}

func isList(t *testing.T, got, want []int, of ...any) {
	t.Helper()
	if !slices.Equal(got, want) {
		t.Fatalf("%s: %v, want %v", fmt.Sprint(of...), got, want)
	}
}

func isConf(t *testing.T, got, want api.Conf, of ...any) {
	t.Helper()
	if !sameConf(got, want) {
		t.Fatalf("%s: %v, want %v", fmt.Sprint(of...), got, want)
	}
}
