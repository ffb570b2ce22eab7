package entry_test

import (
	"math"
	"slices"
	"testing"

	"corbel/api"
	"corbel/entry"
)

func isConf(t *testing.T, c api.Conf, want bool) {
	t.Helper()
	if got := entry.GoodConf(c); got != want {
		t.Errorf("GoodConf(%+v): %t, want %t", c, got, want)
	}
}

func isGood(t *testing.T, e api.Entry, want bool) {
	t.Helper()
	if got := entry.Good(e); got != want {
		t.Errorf("Good(%+v): %t, want %t", e, got, want)
	}
}

func isSnap(t *testing.T, s api.Snapshot, want bool) {
	t.Helper()
	if got := entry.GoodSnap(s); got != want {
		t.Errorf("GoodSnap(%s): %t, want %t", show(s), got, want)
	}
}

func isMsg(t *testing.T, what string, m api.Msg, want bool) {
	t.Helper()
	if got := entry.GoodMsg(m); got != want {
		t.Errorf("%s: GoodMsg(%s): %t, want %t", what, show(m), got, want)
	}
}

func TestExample(t *testing.T) {
	e := api.Entry{Index: 1, Term: 1, Kind: api.EntryNoop}
	isGood(t, e, true)
	if b := entry.Bytes(e); !slices.Equal(b, []byte{2, 2, 2}) {
		t.Errorf("Bytes: %d", b)
	}
	isConf(t, api.Conf{}, false)
	isConf(t, api.Conf{Learners: []int{1}}, false)
}

func TestGoodConf(t *testing.T) {
	for _, x := range []struct {
		voters, learners []int
		want             bool
	}{
		{nil, nil, false},
		{[]int{}, []int{}, false},
		{nil, []int{1}, false},
		{[]int{}, []int{1, 2, 3}, false},
		{[]int{1}, nil, true},
		{[]int{1}, []int{}, true},
		{[]int{9}, nil, true},
		{[]int{0}, nil, false},
		{[]int{10}, nil, false},
		{[]int{-1}, nil, false},
		{[]int{math.MinInt}, nil, false},
		{[]int{math.MaxInt}, nil, false},
		{[]int{0, 1}, nil, false},
		{[]int{-1, 1}, nil, false},
		{[]int{9, 10}, nil, false},
		{[]int{1, 2}, nil, true},
		{[]int{1, 9}, nil, true},
		{[]int{1, 1}, nil, false},
		{[]int{9, 9}, nil, false},
		{[]int{2, 1}, nil, false},
		{[]int{1, 3, 2}, nil, false},
		{[]int{1, 2, 2}, nil, false},
		{[]int{5}, []int{1}, true},
		{[]int{5}, []int{9}, true},
		{[]int{5}, []int{0}, false},
		{[]int{5}, []int{10}, false},
		{[]int{5}, []int{-5}, false},
		{[]int{5}, []int{math.MinInt}, false},
		{[]int{5}, []int{math.MaxInt}, false},
		{[]int{5}, []int{1, 1}, false},
		{[]int{5}, []int{2, 1}, false},
		{[]int{5}, []int{5}, false},
		{[]int{1, 2, 3}, []int{3}, false},
		{[]int{1, 2, 3}, []int{1, 4}, false},
		{[]int{4, 5}, []int{1, 4}, false},
		{[]int{1, 3, 5, 7, 9}, []int{2, 4, 6, 8}, true},
		{[]int{1, 2, 3, 4, 5, 6, 7, 8, 9}, nil, true},
		{[]int{1, 2, 3, 4, 5, 6, 7, 8, 9}, []int{9}, false},
		{[]int{1, 2, 3, 4, 5, 6, 7, 8, 9, 10}, nil, false},
		{[]int{1, 2, 3, 4, 5, 6, 7, 8, 9, 9}, nil, false},
		{make([]int, 1<<20), make([]int, 1<<20), false},
	} {
		isConf(t, api.Conf{Voters: x.voters, Learners: x.learners}, x.want)
	}
}

// TestAllConfs: each that may be, and it alone of those that have the same members in another order or one of them twice.
func TestAllConfs(t *testing.T) {
	all := allConfs()
	if len(all) != 19683-512 {
		t.Fatalf("%d members", len(all))
	}
	for _, c := range all {
		isConf(t, c, true)
		for _, n := range []int{0, 1, 5, 9, 10} {
			isConf(t, api.Conf{Voters: append(slices.Clone(c.Voters), n), Learners: c.Learners}, n > c.Voters[len(c.Voters)-1] && n < 10 && !slices.Contains(c.Learners, n))
		}
		isConf(t, api.Conf{Voters: append(slices.Clone(c.Voters), c.Voters[0]), Learners: c.Learners}, false)
		isConf(t, api.Conf{Voters: c.Voters, Learners: append(slices.Clone(c.Learners), c.Voters[len(c.Voters)-1])}, false)
		isConf(t, api.Conf{Voters: append(slices.Clone(c.Learners), c.Voters...), Learners: c.Voters}, false)
	}
}

// TestShortConfs: all short lists over nodes at and beside the edges.
func TestShortConfs(t *testing.T) {
	nodes := []int{-1, 0, 1, 2, 9, 10}
	lists := [][]int{{}}
	for i := 0; len(lists) < 1+6+36+216; i++ {
		for _, n := range nodes {
			lists = append(lists, append(slices.Clone(lists[i]), n))
		}
	}
	found := 0
	for _, voters := range lists {
		for _, learners := range lists {
			c := api.Conf{Voters: voters, Learners: learners}
			isConf(t, c, plainlyConf(c))
			if plainlyConf(c) {
				found++
			}
		}
	}
	if found != 27-8 { // of 1, 2 and 9 each votes, learns, or is no member
		t.Errorf("%d are good", found)
	}
}

func TestGoodEntries(t *testing.T) {
	for _, e := range goodEntries() {
		isGood(t, e, true)
		for _, n := range ends() {
			index, term := e, e
			index.Index, term.Term = n, n
			isGood(t, index, n >= 1)
			isGood(t, term, n >= 1)
		}
	}
	isGood(t, api.Entry{}, false)
}

// TestEntryKinds: with the parts of each good entry, and without any, another kind.
func TestEntryKinds(t *testing.T) {
	for _, e := range goodEntries() {
		for _, kind := range []int{math.MinInt, -3, -2, -1, 0, 4, 5, 256 + e.Kind, 1<<32 + e.Kind, math.MaxInt} {
			e.Kind = kind
			isGood(t, e, false)
			isGood(t, api.Entry{Index: 1, Term: 1, Kind: kind}, false)
		}
	}
}

// TestEntryParts: each kind with each of the parts that others have.
func TestEntryParts(t *testing.T) {
	put := goodCommands()[2]
	for _, x := range []struct {
		command api.Command
		conf    api.Conf
		want    [3]bool // of a noop, of a command, of members
	}{
		{api.Command{}, api.Conf{}, [3]bool{true, false, false}},
		{api.Command{}, api.Conf{Voters: []int{}, Learners: []int{}}, [3]bool{true, false, false}},
		{put, api.Conf{}, [3]bool{false, true, false}},
		{put, api.Conf{Voters: []int{}, Learners: []int{}}, [3]bool{false, true, false}},
		{api.Command{}, conf(1), [3]bool{false, false, true}},
		{put, conf(1), [3]bool{}},
		{api.Command{}, api.Conf{Learners: []int{1}}, [3]bool{}},
		{put, api.Conf{Learners: []int{1}}, [3]bool{}},
		{put, conf(0), [3]bool{}},
		{api.Command{}, conf(0), [3]bool{}},
		{api.Command{}, conf(2, 1), [3]bool{}},
		{api.Command{Kind: api.CmdOpen}, conf(1), [3]bool{}},
		{api.Command{Session: 1}, conf(1), [3]bool{}},
		{api.Command{Limit: 1}, api.Conf{}, [3]bool{}},
		{api.Command{Until: "u"}, api.Conf{}, [3]bool{}},
	} {
		for i, want := range x.want {
			isGood(t, api.Entry{Index: 1, Term: 1, Kind: i + 1, Command: x.command, Conf: x.conf}, want)
		}
	}
}

func TestEntryCommands(t *testing.T) {
	for _, c := range []api.Command{
		{Kind: api.CmdGet, Key: "k"},
		{Kind: api.CmdScan, Limit: 1},
		{Kind: api.CmdOpen, Session: 1},
		{Kind: api.CmdPut, Session: 1, Seq: 1},
		{Kind: api.CmdPut, Session: 1, Key: "k"},
		{Kind: 8, Session: 1, Seq: 1, Key: "k"},
		{Kind: -1},
		{Session: 1},
	} {
		isGood(t, api.Entry{Index: 1, Term: 1, Kind: api.EntryCommand, Command: c}, false)
	}
}

func TestGoodSnaps(t *testing.T) {
	for _, s := range goodSnaps() {
		isSnap(t, s, true)
		for _, n := range ends() {
			index, term := s, s
			index.Index, term.Term = n, n
			isSnap(t, index, n >= 1)
			isSnap(t, term, n >= 1)
		}
		for _, c := range []api.Conf{{}, {Voters: []int{}, Learners: []int{}}, conf(0), conf(10), conf(2, 1), {Learners: []int{1}}, {Voters: []int{1}, Learners: []int{1}}} {
			s.Conf = c
			isSnap(t, s, false)
		}
	}
	isSnap(t, api.Snapshot{}, false)
	for n, want := range map[int]bool{0: true, 1: true, api.MaxFrame - 1: true, api.MaxFrame: true, api.MaxFrame + 1: false, 2 * api.MaxFrame: false} {
		isSnap(t, api.Snapshot{Index: 1, Term: 1, Conf: conf(1), Data: make([]byte, n)}, want)
	}
}

func TestGoodMsgs(t *testing.T) {
	for _, m := range goodMsgs() {
		isMsg(t, "good", m, true)
	}
	isMsg(t, "zero", api.Msg{}, false)
	for _, kind := range []int{math.MinInt, -10, -5, -1, 0, 11, 12, 256 + 5, 1<<32 + 5, math.MaxInt} {
		isMsg(t, "kind", api.Msg{Kind: kind, From: 1, To: 2, Term: 1}, false)
		for like := 1; like <= 10; like++ {
			m := goodMsg(like)
			m.Kind = kind
			isMsg(t, "kind", m, false)
		}
	}
}

// TestMsgNumbers: each number of each kind, alone.
func TestMsgNumbers(t *testing.T) {
	node := func(n int) bool { return n >= 1 && n <= 9 }
	notBelow := func(n int) bool { return n >= 0 }
	for kind := 1; kind <= 10; kind++ {
		one := goodMsg(kind)
		one.Entries = nil // they hang on Index and Term
		for name, x := range map[string]struct {
			at   func(*api.Msg) *int
			want func(int) bool
		}{
			"From":    {func(m *api.Msg) *int { return &m.From }, node},
			"To":      {func(m *api.Msg) *int { return &m.To }, node},
			"Term":    {func(m *api.Msg) *int { return &m.Term }, func(n int) bool { return n >= 1 }},
			"Index":   {func(m *api.Msg) *int { return &m.Index }, notBelow},
			"LogTerm": {func(m *api.Msg) *int { return &m.LogTerm }, notBelow},
			"Commit":  {func(m *api.Msg) *int { return &m.Commit }, notBelow},
			"Round":   {func(m *api.Msg) *int { return &m.Round }, notBelow},
			"Hint":    {func(m *api.Msg) *int { return &m.Hint }, notBelow},
		} {
			for _, n := range ends() {
				m := one
				*x.at(&m) = n
				isMsg(t, name, m, x.want(n))
			}
		}
		one.Reject = !one.Reject
		isMsg(t, "Reject", one, true)
		one.To = one.From
		isMsg(t, "to itself", one, true)
	}
}

func TestMsgEntries(t *testing.T) {
	app := func(index, term int, l ...api.Entry) api.Msg {
		return api.Msg{Kind: api.MsgApp, From: 1, To: 2, Term: term, Index: index, Entries: l}
	}
	most := math.MaxInt
	for n, want := range map[int]bool{0: true, 1: true, 15: true, 16: true, 17: false, 100: false} {
		isMsg(t, "how many", app(3, 2, run(3, 2, n)...), want)
		isMsg(t, "how many", app(0, 2, run(0, 2, n)...), want)
		isMsg(t, "how many, up to the last", app(most-n, 2, run(most-n, 2, n)...), want)
	}
	isMsg(t, "empty", app(3, 2, []api.Entry{}...), true)
	isMsg(t, "empty, not nil", api.Msg{Kind: api.MsgApp, From: 1, To: 2, Term: 1, Entries: []api.Entry{}}, true)

	isMsg(t, "one early", app(3, 2, noop(3, 2)), false)
	isMsg(t, "one late", app(3, 2, noop(5, 2)), false)
	isMsg(t, "from 0", app(0, 2, noop(1, 2)), true)
	isMsg(t, "at 0", app(0, 2, noop(0, 2)), false)
	isMsg(t, "behind -1", app(-1, 2, noop(0, 2)), false)
	isMsg(t, "behind the least", app(math.MinInt, 2, noop(1, 2)), false)
	isMsg(t, "the same twice", app(3, 2, noop(4, 2), noop(4, 2)), false)
	isMsg(t, "a gap", app(3, 2, noop(4, 2), noop(6, 2)), false)
	isMsg(t, "falling", app(3, 2, noop(5, 2), noop(4, 2)), false)
	isMsg(t, "the last falls", app(3, 2, noop(4, 2), noop(5, 2), noop(4, 2)), false)
	isMsg(t, "the last there is", app(most-1, 2, noop(most, 2)), true)
	for _, n := range []int{math.MinInt, -1, 0, 1, 2, most} {
		isMsg(t, "behind the last there is", app(most, 2, noop(n, 2)), false)
		isMsg(t, "the second one, behind it", app(most-1, 2, noop(most, 2), noop(n, 2)), false)
	}

	isMsg(t, "a lesser Term", app(3, 2, noop(4, 1)), true)
	isMsg(t, "a greater Term", app(3, 2, noop(4, 3)), false)
	isMsg(t, "the greatest Term", app(3, most, noop(4, most)), true)
	isMsg(t, "the last one's Term", app(3, 2, noop(4, 2), noop(5, 3)), false)
	isMsg(t, "the first one's Term", app(3, 2, noop(4, 3), noop(5, 2)), false)
	isMsg(t, "Terms that fall", app(3, 2, noop(4, 2), noop(5, 1)), true)

	isMsg(t, "Term 0", app(3, 2, noop(4, 0)), false)
	isMsg(t, "Kind 0", app(3, 2, api.Entry{Index: 4, Term: 1}), false)
	isMsg(t, "the last one's Kind", app(3, 2, noop(4, 1), api.Entry{Index: 5, Term: 1, Kind: 4}), false)
	isMsg(t, "a command", app(3, 2, api.Entry{Index: 4, Term: 1, Kind: api.EntryCommand, Command: goodCommands()[0]}), true)
	isMsg(t, "a command that is not good", app(3, 2, api.Entry{Index: 4, Term: 1, Kind: api.EntryCommand}), false)
	isMsg(t, "members that are not good", app(3, 2, api.Entry{Index: 4, Term: 1, Kind: api.EntryConf, Conf: conf(0)}), false)
	isMsg(t, "a noop with members", app(3, 2, api.Entry{Index: 4, Term: 1, Kind: api.EntryNoop, Conf: conf(1)}), false)
}

// TestMsgPartsOfOthers: entries and a snapshot in kinds that have none.
func TestMsgPartsOfOthers(t *testing.T) {
	for kind := 1; kind <= 10; kind++ {
		for what, l := range map[string][]api.Entry{
			"entries":                run(3, 2, 2),
			"an entry":               run(3, 2, 1),
			"an entry of nothing":    make([]api.Entry, 1),
			"more than there may be": run(3, 2, 17),
		} {
			m := goodMsg(kind)
			m.Entries = l
			isMsg(t, what, m, kind == api.MsgApp && (what == "entries" || what == "an entry"))
		}
		m := goodMsg(kind)
		m.Entries = []api.Entry{}
		isMsg(t, "empty entries", m, true)

		for what, s := range map[string]api.Snapshot{
			"Index":    {Index: 1},
			"Term":     {Term: 1},
			"Voters":   {Conf: conf(1)},
			"Learners": {Conf: api.Conf{Learners: []int{1}}},
			"Data":     {Data: []byte{0}},
			"below 0":  {Index: -1},
			"good":     {Index: 1, Term: 1, Conf: conf(1)},
			"zero":     {},
			"empty":    {Conf: api.Conf{Voters: []int{}, Learners: []int{}}, Data: []byte{}},
		} {
			m := goodMsg(kind)
			m.Snap = s
			zero := what == "zero" || what == "empty"
			isMsg(t, "a snapshot with "+what, m, kind == api.MsgSnap && what == "good" || kind != api.MsgSnap && zero)
		}
	}
}

func TestMsgSnaps(t *testing.T) {
	for what, spoil := range map[string]func(*api.Snapshot){
		"no Index":     func(s *api.Snapshot) { s.Index = 0 },
		"Index":        func(s *api.Snapshot) { s.Index = -1 },
		"no Term":      func(s *api.Snapshot) { s.Term = 0 },
		"Term":         func(s *api.Snapshot) { s.Term = math.MinInt },
		"no members":   func(s *api.Snapshot) { s.Conf = api.Conf{} },
		"members":      func(s *api.Snapshot) { s.Conf = conf(3, 2) },
		"too much":     func(s *api.Snapshot) { s.Data = make([]byte, api.MaxFrame+1) },
		"all of that":  func(s *api.Snapshot) { *s = api.Snapshot{} },
		"both of them": func(s *api.Snapshot) { s.Conf.Learners = s.Conf.Voters },
	} {
		m := goodMsg(api.MsgSnap)
		spoil(&m.Snap)
		isMsg(t, what, m, false)
	}
	m := goodMsg(api.MsgSnap)
	m.Snap.Data = make([]byte, api.MaxFrame)
	isMsg(t, "as much as may be", m, true)
	m.Snap.Term = m.Term + 1
	isMsg(t, "a Term above the message's", m, true)
}
