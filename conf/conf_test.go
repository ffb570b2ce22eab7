package conf_test

import (
	"math"
	"slices"
	"testing"

	"corbel/api"
	"corbel/conf"
	"corbel/entry"
)

// changed: one change behind the other, of which each may be.
func changed(t *testing.T, c api.Conf, steps ...[2]int) api.Conf {
	t.Helper()
	for _, s := range steps {
		next, err := conf.Change(c, s[0], s[1])
		is(t, err, api.OK, "Change ", c, s)
		c = next
	}
	return c
}

func TestExample(t *testing.T) {
	c := changed(t, conf.Begin(3), [2]int{conf.Remove, 2})
	isConf(t, c, api.Conf{Voters: []int{1, 3}}, "Remove 2")
	c = changed(t, c, [2]int{conf.AddLearner, 4})
	isConf(t, c, api.Conf{Voters: []int{1, 3}, Learners: []int{4}}, "AddLearner 4")
	c = changed(t, c, [2]int{conf.Promote, 4})
	isConf(t, c, api.Conf{Voters: []int{1, 3, 4}}, "Promote 4")
}

func TestKinds(t *testing.T) {
	isList(t, []int{conf.AddVoter, conf.AddLearner, conf.Promote, conf.Remove}, []int{1, 2, 3, 4}, "kinds")
}

func TestBegin(t *testing.T) {
	all := []int{1, 2, 3, 4, 5, 6, 7, 8, 9}
	for n := 1; n <= 9; n++ {
		isConf(t, conf.Begin(n), api.Conf{Voters: all[:n]}, "Begin ", n)
	}
	for _, n := range ends {
		c := conf.Begin(n)
		isConf(t, c, api.Conf{Voters: all[:min(max(n, 1), 9)]}, "Begin ", n)
		is(t, entry.GoodConf(c), true, "Begin ", n)
	}
}

func TestHas(t *testing.T) {
	for _, x := range []struct {
		l    []int
		node int
		want bool
	}{
		{nil, 0, false},
		{[]int{}, 1, false},
		{[]int{1}, 1, true},
		{[]int{1}, 0, false},
		{[]int{0}, 0, true},
		{[]int{1, 2, 3}, 1, true},
		{[]int{1, 2, 3}, 3, true},
		{[]int{1, 2, 3}, 4, false},
		{[]int{1, 3}, 2, false},
		// in no order, and more than once
		{[]int{9, 1, 5}, 9, true},
		{[]int{9, 1, 5}, 1, true},
		{[]int{9, 1, 5}, 5, true},
		{[]int{9, 1, 5}, 4, false},
		{[]int{5, 5, 2, 5}, 2, true},
		// what lies behind the end is not there
		{[]int{1, 2, 3}[:2], 3, false},
		{[]int{1, math.MinInt}, math.MinInt, true},
		{[]int{1, math.MinInt}, math.MaxInt, false},
		{[]int{math.MaxInt, 1}, math.MaxInt, true},
		{[]int{-1}, 1, false},
	} {
		is(t, conf.Has(x.l, x.node), x.want, "Has ", x.l, x.node)
	}
}

func TestMembers(t *testing.T) {
	for _, x := range []struct{ voters, learners, want []int }{
		{nil, nil, nil},
		{[]int{}, []int{}, nil},
		{[]int{1}, nil, []int{1}},
		{nil, []int{1}, []int{1}},
		{[]int{1, 3, 5}, []int{2, 4}, []int{1, 2, 3, 4, 5}},
		{[]int{8, 9}, []int{1, 2}, []int{1, 2, 8, 9}},
		{[]int{1, 2}, []int{8, 9}, []int{1, 2, 8, 9}},
		// of what is not good, too
		{[]int{3, 1, 2}, []int{9, 4}, []int{1, 2, 3, 4, 9}},
		{[]int{2, 2}, []int{2, 1}, []int{1, 2}},
		{[]int{0, -1}, []int{10}, []int{-1, 0, 10}},
		{[]int{math.MaxInt}, []int{math.MinInt}, []int{math.MinInt, math.MaxInt}},
	} {
		c := api.Conf{Voters: x.voters, Learners: x.learners}
		isList(t, conf.Members(c), x.want, "Members ", c)
	}
	for _, c := range append(allConfs(), badConfs()...) {
		isList(t, conf.Members(c), plainMembers(c), "Members ", c)
	}
}

func TestUndo(t *testing.T) {
	is(t, conf.Undo(conf.AddVoter), conf.Remove, "Undo AddVoter")
	is(t, conf.Undo(conf.AddLearner), conf.Remove, "Undo AddLearner")
	is(t, conf.Undo(conf.Promote), 0, "Undo Promote")
	is(t, conf.Undo(conf.Remove), 0, "Undo Remove")
	for _, kind := range ends {
		want := 0
		if kind == 1 || kind == 2 {
			want = 4
		}
		is(t, conf.Undo(kind), want, "Undo ", kind)
	}
}

func TestChange(t *testing.T) {
	five := api.Conf{Voters: []int{2, 5, 8}, Learners: []int{4, 6}}
	one := api.Conf{Voters: []int{5}, Learners: []int{1, 9}}
	for _, x := range []struct {
		c          api.Conf
		kind, node int
		want       api.Conf
		err        api.Errno
	}{
		{five, conf.AddVoter, 1, api.Conf{Voters: []int{1, 2, 5, 8}, Learners: []int{4, 6}}, api.OK},
		{five, conf.AddVoter, 7, api.Conf{Voters: []int{2, 5, 7, 8}, Learners: []int{4, 6}}, api.OK},
		{five, conf.AddVoter, 9, api.Conf{Voters: []int{2, 5, 8, 9}, Learners: []int{4, 6}}, api.OK},
		{five, conf.AddVoter, 5, api.Conf{}, api.ErrExists},
		{five, conf.AddVoter, 4, api.Conf{}, api.ErrExists},
		{five, conf.AddLearner, 1, api.Conf{Voters: []int{2, 5, 8}, Learners: []int{1, 4, 6}}, api.OK},
		{five, conf.AddLearner, 9, api.Conf{Voters: []int{2, 5, 8}, Learners: []int{4, 6, 9}}, api.OK},
		{five, conf.AddLearner, 2, api.Conf{}, api.ErrExists},
		{five, conf.AddLearner, 6, api.Conf{}, api.ErrExists},
		{five, conf.Promote, 4, api.Conf{Voters: []int{2, 4, 5, 8}, Learners: []int{6}}, api.OK},
		{five, conf.Promote, 6, api.Conf{Voters: []int{2, 5, 6, 8}, Learners: []int{4}}, api.OK},
		{five, conf.Promote, 5, api.Conf{}, api.ErrNone},
		{five, conf.Promote, 1, api.Conf{}, api.ErrNone},
		{five, conf.Remove, 2, api.Conf{Voters: []int{5, 8}, Learners: []int{4, 6}}, api.OK},
		{five, conf.Remove, 5, api.Conf{Voters: []int{2, 8}, Learners: []int{4, 6}}, api.OK},
		{five, conf.Remove, 8, api.Conf{Voters: []int{2, 5}, Learners: []int{4, 6}}, api.OK},
		{five, conf.Remove, 6, api.Conf{Voters: []int{2, 5, 8}, Learners: []int{4}}, api.OK},
		{five, conf.Remove, 3, api.Conf{}, api.ErrNone},
		// the only voter
		{one, conf.Remove, 5, api.Conf{}, api.ErrArg},
		{one, conf.Remove, 1, api.Conf{Voters: []int{5}, Learners: []int{9}}, api.OK},
		{one, conf.Remove, 2, api.Conf{}, api.ErrNone},
		{one, conf.Promote, 5, api.Conf{}, api.ErrNone},
		{one, conf.Promote, 9, api.Conf{Voters: []int{5, 9}, Learners: []int{1}}, api.OK},
		{conf.Begin(1), conf.Remove, 1, api.Conf{}, api.ErrArg},
		{conf.Begin(2), conf.Remove, 1, api.Conf{Voters: []int{2}}, api.OK},
		// all nodes
		{conf.Begin(9), conf.AddVoter, 9, api.Conf{}, api.ErrExists},
		{conf.Begin(9), conf.AddVoter, 10, api.Conf{}, api.ErrArg},
		{conf.Begin(8), conf.AddLearner, 9, api.Conf{Voters: []int{1, 2, 3, 4, 5, 6, 7, 8}, Learners: []int{9}}, api.OK},
	} {
		got, err := conf.Change(x.c, x.kind, x.node)
		is(t, err, x.err, "Change ", x.c, x.kind, x.node)
		isConf(t, got, x.want, "Change ", x.c, x.kind, x.node)
	}
}

// TestAllChanges: each kind of each node of all members that are good; what comes of it is good.
func TestAllChanges(t *testing.T) {
	for _, c := range allConfs() {
		for kind := 0; kind <= 5; kind++ {
			for node := 0; node <= 10; node++ {
				want, err := plainChange(c, kind, node)
				got, e := conf.Change(c, kind, node)
				is(t, e, err, "Change ", c, kind, node)
				isConf(t, got, want, "Change ", c, kind, node)
				is(t, entry.GoodConf(got), e == api.OK, "good: Change ", c, kind, node)
			}
		}
	}
}

// TestWrongChanges: kinds, nodes and members that may not be are ErrArg, whatever else there is.
func TestWrongChanges(t *testing.T) {
	for _, c := range badConfs() {
		for _, kind := range ends {
			for _, node := range ends {
				got, err := conf.Change(c, kind, node)
				is(t, err, api.ErrArg, "Change ", c, kind, node)
				isConf(t, got, api.Conf{}, "Change ", c, kind, node)
			}
		}
	}
	for _, c := range []api.Conf{conf.Begin(1), conf.Begin(9), {Voters: []int{9}, Learners: []int{1}}} {
		for _, kind := range ends {
			for _, node := range ends {
				want, err := plainChange(c, kind, node)
				got, e := conf.Change(c, kind, node)
				is(t, e, err, "Change ", c, kind, node)
				isConf(t, got, want, "Change ", c, kind, node)
			}
		}
	}
}

// TestUndone: the kind that Undo tells takes a change back.
func TestUndone(t *testing.T) {
	for _, c := range allConfs() {
		for kind := conf.AddVoter; kind <= conf.Remove; kind++ {
			for node := 1; node <= 9; node++ {
				next, err := conf.Change(c, kind, node)
				if err == api.OK && conf.Undo(kind) != 0 {
					isConf(t, changed(t, next, [2]int{conf.Undo(kind), node}), c, "undone ", c, kind, node)
				}
			}
		}
	}
}

// TestNothingIsChanged: R3: what is handed in, and the room behind it, are as they were.
func TestNothingIsChanged(t *testing.T) {
	roomy := func() api.Conf {
		return api.Conf{Voters: []int{2, 5, 8, 77, 78}[:3], Learners: []int{4, 6, 87, 88}[:2]}
	}
	for kind := conf.AddVoter; kind <= conf.Remove; kind++ {
		for node := 1; node <= 9; node++ {
			c, l := roomy(), []int{9, 2, 2, 8, 99, 98}[:4]
			conf.Change(c, kind, node)
			conf.Members(c)
			conf.Majority(c, l)
			conf.Has(l, node)
			isList(t, c.Voters[:5], []int{2, 5, 8, 77, 78}, "voters")
			isList(t, c.Learners[:4], []int{4, 6, 87, 88}, "learners")
			isList(t, l[:6], []int{9, 2, 2, 8, 99, 98}, "list")
		}
	}
	mixed := api.Conf{Voters: []int{3, 1, 3}, Learners: []int{2, 1}}
	conf.Members(mixed)
	conf.Majority(mixed, mixed.Learners)
	isConf(t, mixed, api.Conf{Voters: []int{3, 1, 3}, Learners: []int{2, 1}}, "in no order")
}

// spoil: writes over a list, and over the room behind it.
func spoil(l []int) {
	l = l[:cap(l)]
	for i := range l {
		l[i] = -7
	}
}

// TestAnswersAreNew: R3: who writes over an answer, its room too, changes neither what was handed in nor another list of it, nor what is answered the next time.
func TestAnswersAreNew(t *testing.T) {
	for kind := conf.AddVoter; kind <= conf.Remove; kind++ {
		for node := 1; node <= 9; node++ {
			c := api.Conf{Voters: []int{2, 5, 8}, Learners: []int{4, 6}}
			got, _ := conf.Change(c, kind, node)
			learners := slices.Clone(got.Learners)
			spoil(got.Voters)
			isList(t, got.Learners, learners, "learners")
			spoil(got.Learners)
			isConf(t, c, api.Conf{Voters: []int{2, 5, 8}, Learners: []int{4, 6}}, "handed in")
			again, err := conf.Change(c, kind, node)
			want, e := plainChange(c, kind, node)
			is(t, err, e, "again")
			isConf(t, again, want, "again")
		}
	}
	for _, c := range []api.Conf{{Voters: []int{1, 2}}, {Learners: []int{1, 2}}, {Voters: []int{1}, Learners: []int{2}}} {
		spoil(conf.Members(c))
		isList(t, conf.Members(c), []int{1, 2}, "Members")
	}
	begin := conf.Begin(3)
	spoil(begin.Voters)
	spoil(begin.Learners)
	isConf(t, conf.Begin(3), api.Conf{Voters: []int{1, 2, 3}}, "Begin")
}
