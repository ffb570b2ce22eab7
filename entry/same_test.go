package entry_test

import (
	"math"
	"slices"
	"testing"

	"corbel/api"
	"corbel/entry"
)

func alike(t *testing.T, what string, a, b api.Entry, want bool) {
	t.Helper()
	if entry.Same(a, b) != want || entry.Same(b, a) != want {
		t.Errorf("%s: Same(%+v, %+v): %t, %t, want %t", what, a, b, entry.Same(a, b), entry.Same(b, a), want)
	}
}

func alikeConf(t *testing.T, what string, a, b api.Conf, want bool) {
	t.Helper()
	if entry.SameConf(a, b) != want || entry.SameConf(b, a) != want {
		t.Errorf("%s: SameConf(%+v, %+v): %t, %t, want %t", what, a, b, entry.SameConf(a, b), entry.SameConf(b, a), want)
	}
	alike(t, what, api.Entry{Conf: a}, api.Entry{Conf: b}, want)
}

func TestSameConf(t *testing.T) {
	one := func() api.Conf { return api.Conf{Voters: []int{1, 2, 3}, Learners: []int{4, 5}} }
	alikeConf(t, "alike", one(), one(), true)
	for what, part := range map[string]func(*api.Conf){
		"the first voter":      func(c *api.Conf) { c.Voters[0] = 0 },
		"the second voter":     func(c *api.Conf) { c.Voters[1] = -2 },
		"the last voter":       func(c *api.Conf) { c.Voters[2] = math.MaxInt },
		"the first learner":    func(c *api.Conf) { c.Learners[0] = 3 },
		"the last learner":     func(c *api.Conf) { c.Learners[1] = 6 },
		"a voter fewer":        func(c *api.Conf) { c.Voters = c.Voters[:2] },
		"another voter fewer":  func(c *api.Conf) { c.Voters = c.Voters[1:] },
		"a learner fewer":      func(c *api.Conf) { c.Learners = c.Learners[:1] },
		"a voter more":         func(c *api.Conf) { c.Voters = append(c.Voters, 4) },
		"a voter of 0 more":    func(c *api.Conf) { c.Voters = append(c.Voters, 0) },
		"a learner more":       func(c *api.Conf) { c.Learners = append(c.Learners, 6) },
		"no voters":            func(c *api.Conf) { c.Voters = nil },
		"no learners":          func(c *api.Conf) { c.Learners = nil },
		"another order":        func(c *api.Conf) { slices.Reverse(c.Voters) },
		"learners' order":      func(c *api.Conf) { slices.Reverse(c.Learners) },
		"the other way round":  func(c *api.Conf) { c.Voters, c.Learners = c.Learners, c.Voters },
		"one of them promoted": func(c *api.Conf) { c.Voters, c.Learners = []int{1, 2, 3, 4}, []int{5} },
	} {
		c := one()
		part(&c)
		alikeConf(t, what, one(), c, false)
		alikeConf(t, what+", itself", c, c, true)
	}
	empty := api.Conf{Voters: []int{}, Learners: []int{}}
	alikeConf(t, "nothing", api.Conf{}, api.Conf{}, true)
	alikeConf(t, "nothing and empty lists", api.Conf{}, empty, true)
	alikeConf(t, "room for some", api.Conf{}, api.Conf{Voters: make([]int, 0, 5), Learners: make([]int, 0, 5)}, true)
	alikeConf(t, "no learners and empty ones", conf(1), api.Conf{Voters: []int{1}, Learners: []int{}}, true)
	alikeConf(t, "no voters and empty ones", api.Conf{Learners: []int{1}}, api.Conf{Voters: []int{}, Learners: []int{1}}, true)
	alikeConf(t, "nothing and a 0", api.Conf{}, conf(0), false)
	alikeConf(t, "a voter and a learner", conf(1), api.Conf{Learners: []int{1}}, false)
	alikeConf(t, "room behind the end", api.Conf{Voters: []int{1, 2}[:1]}, api.Conf{Voters: []int{1, 3}[:1]}, true)
}

func TestSame(t *testing.T) {
	one := func() api.Entry {
		return api.Entry{Index: 1, Term: 2, Kind: 3,
			Command: api.Command{Kind: 4, Session: 5, Seq: 6, Key: "k", Old: "o", Value: "v", Until: "u", Limit: 7},
			Conf:    api.Conf{Voters: []int{1, 2}, Learners: []int{3}}}
	}
	alike(t, "alike", one(), one(), true)
	for what, part := range map[string]func(*api.Entry){
		"Index":           func(e *api.Entry) { e.Index = -1 },
		"Index 0":         func(e *api.Entry) { e.Index = 0 },
		"Term":            func(e *api.Entry) { e.Term = math.MaxInt },
		"Index and Term":  func(e *api.Entry) { e.Index, e.Term = e.Term, e.Index },
		"Kind":            func(e *api.Entry) { e.Kind = 2 },
		"Kind 0":          func(e *api.Entry) { e.Kind = 0 },
		"Command.Kind":    func(e *api.Entry) { e.Command.Kind = 3 },
		"Command.Session": func(e *api.Entry) { e.Command.Session = 0 },
		"Command.Seq":     func(e *api.Entry) { e.Command.Seq = 7 },
		"Command.Key":     func(e *api.Entry) { e.Command.Key = "l" },
		"Command.Old":     func(e *api.Entry) { e.Command.Old = "" },
		"Command.Value":   func(e *api.Entry) { e.Command.Value = "v\x00" },
		"Command.Until":   func(e *api.Entry) { e.Command.Until = "U" },
		"Command.Limit":   func(e *api.Entry) { e.Command.Limit = -7 },
		"a voter":         func(e *api.Entry) { e.Conf.Voters[1] = 4 },
		"a learner":       func(e *api.Entry) { e.Conf.Learners[0] = 4 },
		"no voters":       func(e *api.Entry) { e.Conf.Voters = nil },
		"no learners":     func(e *api.Entry) { e.Conf.Learners = nil },
		"no members":      func(e *api.Entry) { e.Conf = api.Conf{} },
		"no command":      func(e *api.Entry) { e.Command = api.Command{} },
	} {
		e := one()
		part(&e)
		alike(t, what, one(), e, false)
		alike(t, what+", itself", e, e, true)
		for kind := range 5 { // the same, whatever the kind has
			a, b := one(), e
			a.Kind, b.Kind = kind, kind
			alike(t, what, a, b, what == "Kind" || what == "Kind 0")
		}
	}
	alike(t, "zero", api.Entry{}, api.Entry{}, true)
	alike(t, "zero and empty lists", api.Entry{}, api.Entry{Conf: api.Conf{Voters: []int{}, Learners: []int{}}}, true)
}

// TestSameOfAll: what is good is alike where its bytes are.
func TestSameOfAll(t *testing.T) {
	l := append(goodEntries(), goodEntries()...)
	for _, a := range l {
		for _, b := range l {
			alike(t, "good", a, b, slices.Equal(entryBytes(a), entryBytes(b)))
		}
	}
	for _, a := range someConfs() {
		for _, b := range someConfs() {
			alikeConf(t, "good", a, b, slices.Equal(confBytes(a), confBytes(b)))
		}
	}
}

func TestSameOfLongLists(t *testing.T) {
	many := func() api.Conf { return api.Conf{Voters: make([]int, 1<<20), Learners: make([]int, 1<<20)} }
	a, b := many(), many()
	alikeConf(t, "long lists", a, b, true)
	b.Learners[1<<20-1] = 1
	if entry.SameConf(a, b) || entry.SameConf(b, a) {
		t.Error("long lists that part at their end are alike")
	}
}
